package lanes

import (
	"slices"
)

// message is bytes on their way. What is turned in them is kept beside them, so that it may be turned otherwise.
type message struct {
	whole []byte // as they were sent; never changed, as a message that was doubled has them, too
	at    int    // which byte is turned
	by    byte   // by what; 0: it is as it was sent
}

// sent is a message that nobody has touched.
func sent(b []byte) *message {
	return &message{whole: slices.Clone(b)}
}

// bytes is a message as it comes.
func (m *message) bytes() []byte {
	b := slices.Clone(m.whole)
	if len(b) > 0 {
		b[max(m.at, 0)%len(b)] ^= m.by
	}
	return b
}
