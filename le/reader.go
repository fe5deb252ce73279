package le

import "bytes"

// Reader takes numbers and bytes, one behind the other; what isn't there spoils it.
type Reader struct {
	at   int
	rest []byte
	bad  bool
}

// Read reads bytes from a place on. They are copied: who handed them in may change them.
func Read(b []byte, at int) *Reader {
	if at < 0 || at > len(b) {
		return &Reader{bad: true}
	}
	return &Reader{at: at, rest: bytes.Clone(b[at:])}
}

// spoil makes it bad: without bytes it tells nothing more. The place stays.
func (r *Reader) spoil() {
	r.bad = true
	r.rest = nil
}

// skip goes on behind so many bytes, which are there.
func (r *Reader) skip(n int) {
	r.at += n
	r.rest = r.rest[n:]
}

// Num takes a number; 0, if there is none.
func (r *Reader) Num(width int) uint64 {
	n, ok := Get(r.rest, 0, width)
	if !ok {
		r.spoil()
		return 0
	}
	r.skip(width)
	return n
}

// Words takes so many numbers of eight bytes; none, if there are fewer.
func (r *Reader) Words(n int) []uint64 {
	// All are looked for ahead of the first: n may be far more than there is memory.
	if n < 0 || n > len(r.rest)/wordWidth {
		r.spoil()
		return nil
	}
	l := make([]uint64, n)
	for i := range l {
		l[i] = r.Num(wordWidth)
	}
	return l
}

// Raw takes so many bytes; none, if there are fewer.
func (r *Reader) Raw(n int) []byte {
	if n < 0 || n > len(r.rest) {
		r.spoil()
		return nil
	}
	b := bytes.Clone(r.rest[:n])
	r.skip(n)
	return b
}

// At tells the place, and whether all was there.
func (r *Reader) At() (int, bool) { return r.at, !r.bad }
