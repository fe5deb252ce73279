package le

import "bytes"

// mostBytes is how many bytes there may be at most: behind it nothing is promised.
const mostBytes = 1<<31 - 1

// Writer puts numbers and bytes one behind the other.
type Writer struct {
	b []byte
}

// Num puts a number down.
func (w *Writer) Num(n uint64, width int) {
	w.b = append(w.b, Bytes(n, width)...)
}

// Words puts numbers of eight bytes down.
func (w *Writer) Words(l ...uint64) {
	for _, n := range l {
		w.Num(n, wordWidth)
	}
}

// Raw puts bytes down.
func (w *Writer) Raw(b []byte) {
	w.b = append(w.b, b...)
}

// Pad puts noughts down, up to the next multiple.
func (w *Writer) Pad(to int) {
	if to < 1 || len(w.b)%to == 0 {
		return
	}
	// More than mostBytes may be more than there is memory, and that can't be caught: none then.
	if n := to - len(w.b)%to; n <= mostBytes-len(w.b) {
		w.b = append(w.b, make([]byte, n)...)
	}
}

// Len tells how many bytes there are.
func (w *Writer) Len() int { return len(w.b) }

// Done tells all bytes, as a copy: the writer may go on.
func (w *Writer) Done() []byte { return bytes.Clone(w.b) }
