package le

import (
	"bytes"
	"math"
	"slices"
	"testing"
)

var widths = []int{1, 2, 4, 8}

// numbers are the edges of every width.
var numbers = []uint64{0, 1, 0x7f, 0x80, 0xff, 0x100, 0xffff, 0x10000, 0x0807060504030201,
	1<<32 - 1, 1 << 32, 1<<63 - 1, 1 << 63, math.MaxUint64}

// P1.1

func TestGetTellsTheLeastByteFirst(t *testing.T) {
	b := []byte{0xf1, 2, 3, 4, 5, 6, 7, 0xf8, 9}
	for _, c := range []struct {
		at, width int
		want      uint64
	}{
		{0, 1, 0xf1}, {7, 1, 0xf8}, {8, 1, 9},
		{0, 2, 0x02f1}, {6, 2, 0xf807}, {7, 2, 0x09f8},
		{0, 4, 0x040302f1}, {1, 4, 0x05040302}, {5, 4, 0x09f80706},
		{0, 8, 0xf8070605040302f1}, {1, 8, 0x09f8070605040302},
	} {
		if n, ok := Get(b, c.at, c.width); !ok || n != c.want {
			t.Errorf("Get at %d of %d: %x, %v; want %x", c.at, c.width, n, ok, c.want)
		}
	}
}

func TestGetTellsNothingWhereThereIsNone(t *testing.T) {
	b := []byte{1, 2, 3, 4, 5, 6, 7, 8, 9}
	places := []int{math.MinInt, -9, -8, -1, 0, 1, 2, 8, 9, 10, math.MaxInt - 8, math.MaxInt}
	sizes := []int{math.MinInt, -8, -1, 0, 1, 2, 3, 4, 5, 6, 7, 8, 9, 16, math.MaxInt}
	for _, at := range places {
		for _, width := range sizes {
			there := slices.Contains(widths, width) && at >= 0 && at <= 8 && at+width <= 9
			n, ok := Get(b, at, width)
			if ok != there || !ok && n != 0 {
				t.Errorf("Get at %d of %d: %x, %v", at, width, n, ok)
			}
		}
	}
	for _, none := range [][]byte{nil, {}} {
		if n, ok := Get(none, 0, 1); ok || n != 0 {
			t.Error("Get of no bytes:", n, ok)
		}
	}
	// What lies in the spare room isn't there.
	if n, ok := Get(b[:2], 0, 4); ok || n != 0 {
		t.Error("Get of spare room:", n, ok)
	}
}

func TestBytes(t *testing.T) {
	const n = 0xf8f7060504030201
	all := []byte{1, 2, 3, 4, 5, 6, 0xf7, 0xf8}
	for width := range 9 {
		if b := Bytes(n, width); !bytes.Equal(b, all[:width]) {
			t.Error("Bytes of", width, b)
		}
	}
	if b := Bytes(258, 4); !bytes.Equal(b, []byte{2, 1, 0, 0}) {
		t.Error("Bytes(258, 4)", b)
	}
	for _, width := range []int{-1, -8, math.MinInt} {
		if b := Bytes(n, width); len(b) != 0 {
			t.Error("Bytes of", width, b)
		}
	}
	for _, width := range []int{9, 16, math.MaxInt} {
		if b := Bytes(n, width); !bytes.Equal(b, all) {
			t.Error("Bytes of", width, b)
		}
	}
}

func TestAlign(t *testing.T) {
	for n := range 100 {
		a := Align(n)
		if a%8 != 0 || a < n || a >= n+8 {
			t.Error("Align", n, a)
		}
	}
	const last = math.MaxInt - 7 // 2^63 - 8
	for _, c := range [][2]int{
		{9, 16}, {math.MinInt, 0}, {-16, 0}, {-9, 0}, {-8, 0}, {-1, 0}, {0, 0},
		{last - 8, last - 8}, {last - 7, last}, {last - 1, last}, {last, last},
	} {
		if a := Align(c[0]); a != c[1] {
			t.Error("Align", c[0], a)
		}
	}
	// Behind the last multiple any number is right; it is told all the same.
	Align(last + 1)
	Align(math.MaxInt)
}

// P1.2

func TestWriterBeginsWithoutBytes(t *testing.T) {
	var w Writer
	if w.Len() != 0 || len(w.Done()) != 0 {
		t.Error(w.Len(), w.Done())
	}
	w.Words()
	w.Raw(nil)
	w.Num(7, 0)
	w.Num(7, -1)
	w.Pad(8)
	if w.Len() != 0 || len(w.Done()) != 0 {
		t.Error(w.Len(), w.Done())
	}
}

func TestWriterPutsOneBehindTheOther(t *testing.T) {
	var w Writer
	var want []byte
	is := func(what string) {
		t.Helper()
		if w.Len() != len(want) || !bytes.Equal(w.Done(), want) {
			t.Error(what, w.Len(), w.Done(), want)
		}
	}
	for _, n := range numbers {
		for _, width := range []int{-1, 0, 1, 2, 3, 4, 5, 6, 7, 8, 9} {
			w.Num(n, width)
			want = append(want, Bytes(n, width)...)
			is("Num")
		}
	}
	w.Raw([]byte{9, 8, 7})
	want = append(want, 9, 8, 7)
	is("Raw")
	w.Words(numbers...)
	for _, n := range numbers {
		want = append(want, Bytes(n, 8)...)
	}
	is("Words")
	w.Words(1)
	want = append(want, 1, 0, 0, 0, 0, 0, 0, 0)
	is("one word")
}

func TestPad(t *testing.T) {
	for to := 1; to < 20; to++ {
		for size := range 40 {
			var w Writer
			raw := bytes.Repeat([]byte{5}, size)
			w.Raw(raw)
			w.Pad(to)
			b := w.Done()
			more := len(b) - size
			if len(b)%to != 0 || more < 0 || more >= to || w.Len() != len(b) {
				t.Fatal("Pad", to, "of", size, "bytes:", len(b))
			}
			if !bytes.Equal(b[:size], raw) || !bytes.Equal(b[size:], make([]byte, more)) {
				t.Fatal("Pad", to, "of", size, "bytes:", b)
			}
		}
	}
}

func TestPadToNoNumber(t *testing.T) {
	var w Writer
	w.Raw([]byte{1, 2, 3})
	for _, to := range []int{0, -1, -2, -8, math.MinInt} {
		w.Pad(to)
		if w.Len() != 3 {
			t.Error("Pad", to, w.Done())
		}
	}
}

func TestPadDividesNoBytesByAnyNumber(t *testing.T) {
	for _, to := range []int{1, 8, 1 << 40, math.MaxInt} {
		var w Writer
		w.Pad(to)
		if w.Len() != 0 {
			t.Error("Pad", to, w.Len())
		}
	}
}

// P1.3

func TestReadBegins(t *testing.T) {
	b := []byte{1, 2, 3}
	for at := range 4 {
		r := Read(b, at)
		if p, ok := r.At(); p != at || !ok {
			t.Error("Read at", at, p, ok)
		}
		if got := r.Raw(3 - at); !bytes.Equal(got, b[at:]) {
			t.Error("Read at", at, got)
		}
		if p, ok := r.At(); p != 3 || !ok {
			t.Error("Read at", at, p, ok)
		}
	}
	for _, at := range []int{-1, 4, math.MinInt, math.MaxInt} {
		isBad(t, Read(b, at), 0)
	}
	isBad(t, Read(nil, 1), 0)
	isBad(t, Read(b[:2], 3), 0)
	if p, ok := Read(nil, 0).At(); p != 0 || !ok {
		t.Error("Read of no bytes", p, ok)
	}
}

// isBad looks that a reader tells nothing more, whatever it is asked.
func isBad(t *testing.T, r *Reader, at int) {
	t.Helper()
	for range 2 {
		if p, ok := r.At(); p != at || ok {
			t.Error("At of a bad reader:", p, ok)
		}
		for _, n := range []int{-1, 0, 1, 2, 8} {
			if r.Num(n) != 0 || len(r.Raw(n)) != 0 || len(r.Words(n)) != 0 {
				t.Error("a bad reader tells something of", n)
			}
		}
	}
}

func TestReaderGoesOn(t *testing.T) {
	b := make([]byte, 40)
	for i := range b {
		b[i] = byte(i + 1)
	}
	r := Read(b, 2)
	at := 2
	is := func(what string, right bool, n int) {
		t.Helper()
		at += n
		if p, ok := r.At(); !right || p != at || !ok {
			t.Error(what, right, p, ok)
		}
	}
	is("Num of 1", r.Num(1) == 3, 1)
	is("Num of 2", r.Num(2) == 0x0504, 2)
	is("Num of 4", r.Num(4) == 0x09080706, 4)
	is("Num of 8", r.Num(8) == 0x11100f0e0d0c0b0a, 8)
	is("Raw", bytes.Equal(r.Raw(3), []byte{18, 19, 20}), 3)
	is("Raw of none", len(r.Raw(0)) == 0, 0)
	is("Words of none", len(r.Words(0)) == 0, 0)
	is("Words", slices.Equal(r.Words(2), []uint64{0x1c1b1a1918171615, 0x24232221201f1e1d}), 16)
	is("Raw to the end", bytes.Equal(r.Raw(4), []byte{37, 38, 39, 40}), 4)
	is("Raw of none at the end", len(r.Raw(0)) == 0, 0)
	is("Words of none at the end", len(r.Words(0)) == 0, 0)
}

func TestReaderGetsBad(t *testing.T) {
	b := bytes.Repeat([]byte{7}, 20)
	for _, width := range []int{math.MinInt, -8, -1, 0, 3, 5, 6, 7, 9, 16, math.MaxInt} {
		r := Read(b, 1)
		if n := r.Num(width); n != 0 {
			t.Error("Num of", width, n)
		}
		isBad(t, r, 1)
	}
	for _, width := range widths {
		r := Read(b, 21-width)
		if n := r.Num(width); n != 0 {
			t.Error("Num of", width, n)
		}
		isBad(t, r, 21-width)
	}
	for _, n := range []int{math.MinInt, -1, 18, math.MaxInt} {
		r := Read(b, 3)
		if got := r.Raw(n); len(got) != 0 {
			t.Error("Raw of", n, got)
		}
		isBad(t, r, 3)
	}
	// Of the great ones eight times as many wraps round to few.
	for _, n := range []int{math.MinInt, -1, 3, 1 << 60, 1 << 61, 1<<61 + 1, math.MaxInt} {
		r := Read(b, 4)
		if got := r.Words(n); len(got) != 0 {
			t.Error("Words of", n, got)
		}
		isBad(t, r, 4)
	}
}

// P1.4

func TestWhatIsPutDownIsTakenAgain(t *testing.T) {
	raw := []byte("what is put down")
	var w Writer
	w.Raw([]byte{1, 2, 3})
	for _, n := range numbers {
		for _, width := range widths {
			w.Num(n, width)
		}
		w.Raw(raw)
		w.Words(n, ^n, n+1)
	}
	w.Words(numbers...)
	b := w.Done()
	r := Read(b, 3)
	for _, n := range numbers {
		for _, width := range widths {
			if got := r.Num(width); got != n<<(64-8*width)>>(64-8*width) {
				t.Errorf("Num of %d: %x, of %x", width, got, n)
			}
		}
		if got := r.Raw(len(raw)); !bytes.Equal(got, raw) {
			t.Errorf("Raw: %q", got)
		}
		if got := r.Words(3); !slices.Equal(got, []uint64{n, ^n, n + 1}) {
			t.Errorf("Words: %x, of %x", got, n)
		}
	}
	if got := r.Words(len(numbers)); !slices.Equal(got, numbers) {
		t.Errorf("Words: %x", got)
	}
	if at, ok := r.At(); at != len(b) || !ok {
		t.Error(at, ok, len(b))
	}
}

func TestGetTakesWhatBytesPuts(t *testing.T) {
	for _, n := range numbers {
		for _, width := range widths {
			if got, ok := Get(Bytes(n, width), 0, width); !ok || got != n<<(64-8*width)>>(64-8*width) {
				t.Errorf("%x of %d: %x, %v", n, width, got, ok)
			}
		}
	}
}

// What is handed in is neither changed nor kept, and what is told is new.

func TestWriterKeepsNothing(t *testing.T) {
	room := []byte{1, 2, 3, 4, 5, 6}
	var w Writer
	w.Raw(room[:2])
	w.Num(0xffff, 2)
	if !bytes.Equal(room, []byte{1, 2, 3, 4, 5, 6}) {
		t.Error("what was handed in is changed:", room)
	}
	room[0] = 9
	words := []uint64{7}
	w.Words(words...)
	words[0] = 8
	want := []byte{1, 2, 0xff, 0xff, 7, 0, 0, 0, 0, 0, 0, 0}
	b := w.Done()
	if !bytes.Equal(b, want) {
		t.Error(b)
	}
	clear(b[:cap(b)])
	w.Num(1, 1)
	if !bytes.Equal(b, make([]byte, len(b))) || !bytes.Equal(w.Done(), append(want, 1)) {
		t.Error("what was told is kept:", b, w.Done())
	}
}

func TestReaderKeepsNothing(t *testing.T) {
	b := []byte{1, 2, 3, 4, 5, 6, 7, 8, 9, 10}
	r := Read(b, 0)
	clear(b)
	first := r.Raw(2)
	if !bytes.Equal(first, []byte{1, 2}) {
		t.Error("what was handed in is kept:", first)
	}
	clear(first[:cap(first)])
	if n := r.Num(8); n != 0x0a09080706050403 {
		t.Errorf("what was told is kept: %x", n)
	}
	if !bytes.Equal(b, make([]byte, 10)) {
		t.Error("what was handed in is changed:", b)
	}
}
