// Package octet has numbers and texts as bytes. See shared/doc/01-octet.md.
package octet

import "keelson/api"

const (
	maxWidth  = 8
	textWidth = 2 // of a text's length: MaxText fits in it
)

// Put tells b, and the numbers behind it, in new memory: b's spare room may be somebody else's.
func Put(b []byte, width int, l ...uint64) []byte {
	if !isWidth(width) {
		return grown(b, 0)
	}
	out := grown(b, width*len(l))
	for _, n := range l {
		out = number(out, width, n)
	}
	return out
}

// Text tells b, and the text behind it, in new memory likewise.
func Text(b []byte, s string) ([]byte, api.Errno) {
	if len(s) > api.MaxText {
		return nil, api.ErrLong
	}
	out := grown(b, textWidth+len(s))
	out = number(out, textWidth, uint64(len(s)))
	return append(out, s...), api.OK
}

func isWidth(width int) bool {
	return 1 <= width && width <= maxWidth
}

// grown copies b into memory that has just the room that is asked for.
func grown(b []byte, room int) []byte {
	return append(make([]byte, 0, len(b)+room), b...)
}

// number writes into out, which must be memory of one's own.
func number(out []byte, width int, n uint64) []byte {
	for range width {
		out = append(out, byte(n))
		n >>= 8
	}
	return out
}

// rest is what is left of the bytes: a string, so that whoever writes into the bytes later changes nothing here.
type rest struct {
	bytes string
}

func (l *rest) size() int {
	return len(l.bytes)
}

// cut passes over n bytes: as many there must be.
func (l *rest) cut(n int) string {
	s := l.bytes[:n]
	l.bytes = l.bytes[n:]
	return s
}

// Reader reads bytes. The zero Reader has none, and is good.
type Reader struct {
	rest
	bad bool
}

// Read tells a reader of all of b.
func Read(b []byte) *Reader {
	return &Reader{rest: rest{bytes: string(b)}}
}

// Num reads a number of width bytes.
func (r *Reader) Num(width int) uint64 {
	if !isWidth(width) {
		r.Fail()
		return 0
	}
	s := r.next(width)
	var n uint64
	for i := range len(s) {
		n = n<<8 | uint64(s[len(s)-1-i])
	}
	return n
}

// Text reads a text, as Text writes it.
func (r *Reader) Text() string {
	n := r.Num(textWidth)
	if n > api.MaxText {
		r.Fail()
		return ""
	}
	return r.next(int(n))
}

// Take reads n bytes, into memory of their own.
func (r *Reader) Take(n int) []byte {
	s := r.next(n)
	b := make([]byte, len(s))
	copy(b, s)
	return b
}

// next passes over n bytes, or fails: nothing is read then.
func (r *Reader) next(n int) string {
	if r == nil {
		return ""
	}
	if n < 0 || n > r.size() {
		r.Fail()
		return ""
	}
	return r.cut(n)
}

// Left tells how many bytes are not passed over.
func (r *Reader) Left() int {
	if r == nil {
		return 0
	}
	return r.size()
}

// Fail makes it bad. It loses what is left, so that no later call has anything to read.
func (r *Reader) Fail() {
	if r == nil {
		return
	}
	r.bad = true
	r.rest = rest{}
}

// Bad tells whether it is bad.
func (r *Reader) Bad() bool {
	return r != nil && r.bad
}

// End tells whether all was read, and well.
func (r *Reader) End() api.Errno {
	if r == nil {
		return api.ErrNil
	}
	if r.bad || r.size() > 0 {
		return api.ErrForm
	}
	return api.OK
}
