package journal

import (
	"slices"

	"scholia/api"
	"scholia/pages"
)

// The bytes of a page: a stamp, an epoch, an index, how many bytes it has, these, noughts, and the stamp once more.
const (
	epochAt = 4
	indexAt = 8
	countAt = 10
	bytesAt = 11
	stampAt = api.PageSize - 4
	room    = stampAt - bytesAt
)

// sheet is what a page says.
type sheet struct {
	epoch, index int
	has          []byte // at most room
}

// number is what bytes stand for, the highest first.
func number(b []byte) int {
	n := 0
	for i := range len(b) {
		n = n<<8 | int(b[i])
	}
	return n
}

// setNumber lets bytes stand for a number, the highest first.
func setNumber(b []byte, n int) {
	for i := range len(b) {
		b[i] = byte(n >> (8 * (len(b) - 1 - i)))
	}
}

// epochOf is a page's epoch, whole or not.
func epochOf(b []byte) int {
	return number(b[epochAt:indexAt])
}

// open is what a page says; false: it is not whole.
func open(b []byte) (sheet, bool) {
	count := int(b[countAt])
	s := sheet{epoch: epochOf(b), index: number(b[indexAt:countAt])}
	if number(b[:epochAt]) != number(b[stampAt:]) || s.epoch == 0 || count > room {
		return sheet{}, false
	}
	s.has = slices.Clone(b[bytesAt : bytesAt+count])
	return s, true
}

// bytes is a page that says a sheet.
func (s sheet) bytes(stamp int) []byte {
	b := make([]byte, api.PageSize)
	setNumber(b[:epochAt], stamp)
	setNumber(b[epochAt:indexAt], s.epoch)
	setNumber(b[indexAt:countAt], s.index)
	b[countAt] = byte(len(s.has))
	copy(b[bytesAt:], s.has)
	setNumber(b[stampAt:], stamp)
	return b
}

// put writes a sheet on a page. Its stamp is another one than the one at the page's end, which a write that is cut off leaves there: so such a page is not whole.
func put(d *pages.Disk, i int, s sheet) api.Errno {
	old, e := d.Read(i)
	if e != api.OK {
		return e
	}
	return d.Write(i, s.bytes(number(old[stampAt:])+1))
}

// get is what a page of a device says; false: it is not whole.
func get(d *pages.Disk, i int) (sheet, bool) {
	b, e := d.Read(i)
	if e != api.OK {
		return sheet{}, false
	}
	return open(b)
}
