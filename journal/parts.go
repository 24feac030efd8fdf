package journal

import (
	"slices"

	"scholia/api"
	"scholia/coder"
	"scholia/frame"
)

const (
	most = 1 << 18  // bytes of a snapshot, or of a record
	wrap = most + 4 // the same, and the sum ahead
)

// parts is what a log holds.
type parts struct {
	snap    []byte
	records [][]byte
}

// with is bytes, and a part behind them.
func with(b, part []byte) []byte {
	return coder.Text(b, string(frame.Seal(part)))
}

// bytes is the bytes of all parts.
func (x parts) bytes() []byte {
	b := with(nil, x.snap)
	for _, r := range x.records {
		b = append(b, with(nil, r)...)
	}
	return b
}

// list is records in new memory.
func list(records [][]byte) [][]byte {
	var l [][]byte
	for _, r := range records {
		l = append(l, slices.Clone(r))
	}
	return l
}

// clone is the parts in new memory.
func (x parts) clone() parts {
	return parts{snap: slices.Clone(x.snap), records: list(x.records)}
}

// read is the parts that bytes begin with; false: there is no snapshot.
func read(b []byte) (parts, bool) {
	var l [][]byte
	r := coder.Read(b)
	for {
		t := r.Text(wrap)
		part, e := frame.Open([]byte(t))
		if r.Err() != api.OK || e != api.OK {
			break
		}
		l = append(l, part)
	}
	if len(l) == 0 {
		return parts{}, false
	}
	return parts{snap: l[0], records: l[1:]}, true
}
