// Package coder is layer 1: see ../../shared/doc/01-coder.md.
package coder

import (
	"math/bits"

	"scholia/api"
)

// widest is how many bytes stand behind the first one of the longest number.
const widest = 8

// Num is bytes, and a number behind them; one below 0 as 0.
func Num(b []byte, n int) []byte {
	return put(cutOff(b), uint64(max(n, 0)))
}

// Sign is bytes, and a number of either sign behind them: its sign is the lowest bit.
func Sign(b []byte, n int) []byte {
	return put(cutOff(b), uint64(n)<<1^uint64(n>>63))
}

// Text is bytes, and a text behind them.
func Text(b []byte, s string) []byte {
	return append(put(cutOff(b), uint64(len(s))), s...)
}

// Rising is bytes, and numbers that rise behind them, each as how much it is above the one ahead; what does not rise ends them.
func Rising(b []byte, l []int) []byte {
	n := rise(l)
	out := put(cutOff(b), uint64(n))
	least := 0
	for i := range n {
		out = put(out, uint64(l[i]-least))
		least = l[i] + 1
	}
	return out
}

// rise is how many numbers of a list's beginning rise, the first one not below 0.
func rise(l []int) int {
	n, last := 0, -1
	for n < len(l) && l[n] > last {
		last = l[n]
		n++
	}
	return n
}

// cutOff is a list without the room behind its end, so that what is put behind it stands in new memory.
func cutOff(b []byte) []byte {
	return b[:len(b):len(b)]
}

// put appends a number's bytes, one at least.
func put(b []byte, u uint64) []byte {
	k := behind(u)
	b = append(b, byte(0xFF<<(8-k))|byte(u>>(8*k)))
	for i := range k {
		b = append(b, byte(u>>(8*(k-1-i))))
	}
	return b
}

// behind is how many bytes stand behind the first one of a number.
func behind(u uint64) int {
	for k := range widest {
		if u>>(7+7*k) == 0 {
			return k
		}
	}
	return widest
}

// In reads bytes from left to right; behind its first error nothing is left.
type In struct {
	rest []byte
	err  api.Errno
	made bool // a plain In{} must be told from one that Read made of no bytes
}

// Read begins to read bytes.
func Read(b []byte) *In {
	return &In{rest: append([]byte(nil), b...), made: true}
}

// Fail ends a reader by an error, unless it has one.
func (r *In) Fail(e api.Errno) {
	if r.Err() != api.OK || e == api.OK {
		return
	}
	r.err, r.rest = e, nil
}

// Num reads a number of at most so much.
func (r *In) Num(most int) int {
	u := r.number()
	if u>>63 != 0 || int(u) > most {
		r.Fail(api.ELONG)
		return 0
	}
	return int(u)
}

// Sign reads a number of either sign.
func (r *In) Sign() int {
	u := r.number()
	return int(u>>1) ^ -int(u&1)
}

// Text reads a text of at most so many bytes.
func (r *In) Text(most int) string {
	return string(r.take(r.Num(most)))
}

// Rising reads at most so many numbers that rise, none above top.
func (r *In) Rising(many, top int) []int {
	n := r.Num(many)
	top = max(top, -1) // so that no difference below runs over
	var l []int
	last := -1
	for range n {
		d := r.Num(top - 1 - last)
		if r.Err() != api.OK {
			return nil
		}
		last = last + 1 + d
		l = append(l, last)
	}
	return l
}

// Left is how many bytes are left.
func (r *In) Left() int {
	if r == nil {
		return 0
	}
	return len(r.rest)
}

// Err is the first error.
func (r *In) Err() api.Errno {
	if r == nil || !r.made {
		return api.ENIL
	}
	return r.err
}

// End is the first error, also that bytes are left.
func (r *In) End() api.Errno {
	if e := r.Err(); e != api.OK {
		return e
	}
	if r.Left() > 0 {
		return api.EFORM
	}
	return api.OK
}

// number reads the bytes of a number, whatever it is; 0 with an error.
func (r *In) number() uint64 {
	first := r.take(1)
	if len(first) == 0 {
		return 0
	}
	k := bits.LeadingZeros8(^first[0])
	rest := r.take(k)
	if len(rest) < k {
		return 0
	}
	u := uint64(first[0] & (0x7F >> k))
	for i := range k {
		u = u<<8 | uint64(rest[i])
	}
	if behind(u) != k {
		r.Fail(api.EFORM)
		return 0
	}
	return u
}

// take is the next n bytes, which are left no more; none, if there are not so many.
func (r *In) take(n int) []byte {
	if r.Err() != api.OK {
		return nil
	}
	if n > len(r.rest) {
		r.Fail(api.ESHORT)
		return nil
	}
	b := r.rest[:n:n]
	r.rest = r.rest[n:]
	return b
}
