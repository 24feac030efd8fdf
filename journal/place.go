package journal

import (
	"slices"

	"scholia/api"
	"scholia/pages"
)

const (
	halves   = 2         // and so many slots
	least    = 8         // pages of a device that has room for a log
	maxEpoch = 1<<31 - 1 // what is beyond may stand on a device, but no log gets it
)

// place is where a log lies: in a half, as a slot says.
type place struct {
	disk  *pages.Disk
	slot  int
	half  int
	epoch int
}

// find is the place that the slots of a device say; false: none does.
func find(d *pages.Disk) (place, bool) {
	var p place
	if d.Size() < least {
		return place{}, false
	}
	for slot := range halves {
		s, whole := get(d, slot)
		if whole && len(s.has) == 1 && s.has[0] < halves && s.epoch > p.epoch {
			p = place{disk: d, slot: slot, half: int(s.has[0]), epoch: s.epoch}
		}
	}
	return p, p.epoch > 0
}

// other is the half and the slot where the log does not lie.
func (p place) other() place {
	return place{disk: p.disk, slot: 1 - p.slot, half: 1 - p.half, epoch: p.epoch}
}

// size is how many pages the half has.
func (p place) size() int {
	return (p.disk.Size() - halves) / halves
}

// page is the page of the device that an index stands for.
func (p place) page(index int) int {
	return halves + p.half*p.size() + index
}

// pages is all pages of the half.
func (p place) pages() []int {
	var l []int
	for index := range p.size() {
		l = append(l, p.page(index))
	}
	return l
}

// next is the place with an epoch above its own, and above those of all the half's pages, and of some others, whole or not.
func (p place) next(others ...int) (place, api.Errno) {
	epoch := p.epoch
	for _, i := range slices.Concat(others, p.pages()) {
		b, e := p.disk.Read(i)
		if e != api.OK {
			return place{}, e
		}
		epoch = max(epoch, epochOf(b))
	}
	if epoch >= maxEpoch {
		return place{}, api.EOVER
	}
	p.epoch = epoch + 1
	return p, api.OK
}

// bytes is all bytes of the log that lies there.
func (p place) bytes() []byte {
	var b []byte
	for index, i := range p.pages() {
		s, whole := get(p.disk, i)
		if !whole || s.epoch != p.epoch || s.index != index {
			break
		}
		b = append(b, s.has...)
	}
	return b
}

// say writes into the slot that the log lies there.
func (p place) say() api.Errno {
	return put(p.disk, p.slot, sheet{epoch: p.epoch, has: []byte{byte(p.half)}})
}

// end is where a log's next byte goes: behind those that a page of its half has.
type end struct {
	index int
	has   []byte
}

// closed is the end behind a sync: what the page has is not touched any more.
func (at end) closed() end {
	if len(at.has) == 0 {
		return at
	}
	return end{index: at.index + 1}
}

// left is how many bytes have room behind an end.
func (p place) left(at end) int {
	return room*(p.size()-at.index) - len(at.has)
}

// write puts bytes behind an end, page by page: where the end is then.
func (p place) write(at end, b []byte) (end, api.Errno) {
	for len(b) > 0 {
		if len(at.has) == room {
			at = at.closed()
		}
		n := min(len(b), room-len(at.has))
		at.has = slices.Concat(at.has, b[:n])
		b = b[n:]
		if e := put(p.disk, p.page(at.index), sheet{epoch: p.epoch, index: at.index, has: at.has}); e != api.OK {
			return end{}, e
		}
	}
	return at, api.OK
}
