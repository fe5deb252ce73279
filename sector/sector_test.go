package sector

import (
	"bytes"
	"fmt"
	"math"
	"slices"
	"testing"
)

// sizes are at sectors' edges and beside them.
var sizes = []int{0, 1, 2, 10, 62, 63, 64, 65, 66, 100, 126, 127, 128, 129, 130, 191, 192, 193, 200, 320}

// text tells n bytes, none of them 0, with no room behind them.
func text(n int) []byte {
	b := make([]byte, n)
	for i := range b {
		b[i] = byte(i*37)%255 + 1
	}
	return b
}

// other tells n bytes, none of them 0, that differ from text's at each place.
func other(n int) []byte {
	b := text(n)
	for i := range b {
		b[i] = b[i]%255 + 1
	}
	return b
}

func noughts(n int) []byte { return make([]byte, n) }

// lines tells pieces line by line.
func lines(l []Piece) []string {
	var told []string
	for _, p := range l {
		told = append(told, fmt.Sprintf("%d from %d: %x", p.Sector, p.From, p.Data))
	}
	return told
}

// slowPieces is the chapter's, byte by byte.
func slowPieces(at int, b []byte) []Piece {
	var l []Piece
	for i, x := range b {
		n := (at + i) / 64
		if len(l) == 0 || l[len(l)-1].Sector != n {
			l = append(l, Piece{Sector: n, From: (at + i) % 64})
		}
		last := &l[len(l)-1]
		last.Data = append(last.Data, x)
	}
	return l
}

// byteAt tells a byte, nought where there is none.
func byteAt(b []byte, i int) byte {
	if i < 0 || i >= len(b) {
		return 0
	}
	return b[i]
}

// slowSize is the chapter's, byte by byte.
func slowSize(b []byte, n int) []byte {
	var sized []byte
	for i := 0; i < n; i++ {
		sized = append(sized, byteAt(b, i))
	}
	return sized
}

// slowLay is the chapter's, byte by byte.
func slowLay(old []byte, from int, data []byte) []byte {
	s := slowSize(old, 64)
	for i, x := range data {
		if from >= 0 && from+i < 64 {
			s[from+i] = x
		}
	}
	return s
}

// slowSet is the chapter's, byte by byte.
func slowSet(b []byte, n int, s []byte) []byte {
	set := slowSize(b, len(b))
	for i := range set {
		if from := i - n*64; from >= 0 && from < 64 && from < len(s) {
			set[i] = s[from]
		}
	}
	return set
}

// written tells bytes with others laid over them, byte by byte, with noughts between them.
func written(b []byte, at int, more []byte) []byte {
	w := slowSize(b, max(len(b), at+len(more)))
	for i, x := range more {
		w[at+i] = x
	}
	return w
}

// P5.1

func TestCount(t *testing.T) {
	for _, c := range []struct{ size, want int }{
		{math.MinInt, 0}, {math.MinInt32, 0}, {-65, 0}, {-64, 0}, {-63, 0}, {-1, 0}, {0, 0},
		{1, 1}, {2, 1}, {63, 1}, {64, 1}, {65, 2}, {127, 2}, {128, 2}, {129, 3},
		{1 << 20, 1 << 14}, {1<<20 + 1, 1<<14 + 1}, {1<<20 - 1, 1 << 14},
		{math.MaxInt32, 1 << 25}, {1<<40 + 1, 1<<34 + 1},
		{math.MaxInt, 1 << 57}, {math.MaxInt - 62, 1 << 57}, {math.MaxInt - 63, 1<<57 - 1},
	} {
		if have := Count(c.size); have != c.want {
			t.Errorf("Count of %d: %d; want %d", c.size, have, c.want)
		}
	}
	n := 0
	for size := range 1000 {
		if size%64 == 1 {
			n++
		}
		if have := Count(size); have != n {
			t.Errorf("Count of %d: %d; want %d", size, have, n)
		}
	}
}

func TestPieces(t *testing.T) {
	all := text(200)
	for _, c := range []struct {
		at   int
		b    []byte
		want []Piece
	}{
		{63, []byte{1, 2, 3}, []Piece{{0, 63, []byte{1}}, {1, 0, []byte{2, 3}}}},
		{0, []byte{0}, []Piece{{0, 0, []byte{0}}}},
		{0, all[:64], []Piece{{0, 0, all[:64]}}},
		{0, all[:65], []Piece{{0, 0, all[:64]}, {1, 0, all[64:65]}}},
		{64, all[:64], []Piece{{1, 0, all[:64]}}},
		{65, all[:63], []Piece{{1, 1, all[:63]}}},
		{65, all[:64], []Piece{{1, 1, all[:63]}, {2, 0, all[63:64]}}},
		{60, all[:80], []Piece{{0, 60, all[:4]}, {1, 0, all[4:68]}, {2, 0, all[68:80]}}},
		{127, all[:1], []Piece{{1, 63, all[:1]}}},
		{128, all[:192], []Piece{{2, 0, all[:64]}, {3, 0, all[64:128]}, {4, 0, all[128:192]}}},
		{1<<40 - 1, all[:2], []Piece{{1<<34 - 1, 63, all[:1]}, {1 << 34, 0, all[1:2]}}},
		{1 << 40, all[:65], []Piece{{1 << 34, 0, all[:64]}, {1<<34 + 1, 0, all[64:65]}}},
	} {
		if have := lines(Pieces(c.at, c.b)); !slices.Equal(have, lines(c.want)) {
			t.Errorf("Pieces of %d bytes at %d: %q", len(c.b), c.at, have)
		}
	}
}

func TestPiecesOfNothing(t *testing.T) {
	for _, at := range []int{math.MinInt, -65, -64, -63, -1} {
		for _, n := range []int{0, 1, 2, 63, 64, 65, 200} {
			if l := Pieces(at, text(n)); len(l) != 0 {
				t.Errorf("Pieces of %d bytes at %d: %q", n, at, lines(l))
			}
		}
	}
	for _, at := range []int{0, 1, 63, 64, 65, 1 << 40} {
		if len(Pieces(at, nil)) != 0 || len(Pieces(at, []byte{})) != 0 {
			t.Errorf("pieces of nothing at %d", at)
		}
	}
}

func TestPiecesByteByByte(t *testing.T) {
	for at := range 200 {
		for _, n := range sizes {
			b := text(n)
			have, want := lines(Pieces(at, b)), lines(slowPieces(at, b))
			if !slices.Equal(have, want) {
				t.Fatalf("Pieces of %d bytes at %d: %q; want %q", n, at, have, want)
			}
		}
	}
}

// P5.2

func TestLay(t *testing.T) {
	for _, c := range []struct{ old, data, want string }{
		{"", "", ""},
		{"", "abc", "abc"},
		{"xyz", "", "xyz"},
		{"wxyz", "ab", "abyz"},
		{"w", "abc", "abc"},
	} {
		have := Lay([]byte(c.old), Piece{Data: []byte(c.data)})
		if want := append([]byte(c.want), noughts(64-len(c.want))...); !bytes.Equal(have, want) {
			t.Errorf("%q laid over %q: %x", c.data, c.old, have)
		}
	}
	have := Lay([]byte{1, 2, 3}, Piece{Sector: 5, From: 1, Data: []byte{9}})
	if len(have) != 64 || !bytes.Equal(have[:4], []byte{1, 9, 3, 0}) {
		t.Errorf("%x", have)
	}
	have = Lay(nil, Piece{From: 62, Data: []byte{7, 8, 9}})
	if !bytes.Equal(have, append(noughts(62), 7, 8)) {
		t.Errorf("%x", have)
	}
}

func TestLayByteByByte(t *testing.T) {
	for _, n := range sizes {
		for from := range 66 {
			for _, m := range sizes {
				old, data := text(n), other(m)
				have, want := Lay(old, Piece{From: from, Data: data}), slowLay(old, from, data)
				if !bytes.Equal(have, want) {
					t.Fatalf("%d bytes laid over %d from %d: %x; want %x", m, n, from, have, want)
				}
			}
		}
	}
}

func TestLayOfNoPlace(t *testing.T) {
	for _, from := range []int{math.MinInt, -65, -64, -63, -1, 64, 65, 66, 128, 1 << 40, math.MaxInt} {
		for _, n := range sizes {
			if have := Lay(text(n), Piece{From: from, Data: other(130)}); !bytes.Equal(have, slowSize(text(n), 64)) {
				t.Errorf("laid over %d bytes from %d: %x", n, from, have)
			}
		}
	}
}

func TestLayAsksForNoSector(t *testing.T) {
	want := Lay(text(64), Piece{From: 3, Data: other(5)})
	for _, n := range []int{math.MinInt, -1, 1, 2, 1 << 40, math.MaxInt} {
		if have := Lay(text(64), Piece{Sector: n, From: 3, Data: other(5)}); !bytes.Equal(have, want) {
			t.Errorf("a piece of sector %d: %x", n, have)
		}
	}
}

// strange are numbers of sectors that no bytes have, some of them so great that where they begin is too great a number.
var strange = []int{
	math.MinInt, math.MinInt/64 - 1, math.MinInt / 64, -1 << 58, -1 << 57, -2, -1,
	6, 7, 1 << 14, 1 << 34, 1 << 57, 1<<57 + 1, 1 << 58, 1<<58 + 1, 1 << 62, math.MaxInt / 64, math.MaxInt,
}

func TestAt(t *testing.T) {
	for _, size := range sizes {
		b := text(size)
		for n := range 7 {
			want := noughts(64)
			for i := range want {
				want[i] = byteAt(b, n*64+i)
			}
			if have := At(b, n); !bytes.Equal(have, want) {
				t.Errorf("At %d of %d bytes: %x", n, size, have)
			}
		}
		for _, n := range strange {
			if have := At(b, n); !bytes.Equal(have, noughts(64)) {
				t.Errorf("At %d of %d bytes: %x", n, size, have)
			}
		}
	}
}

func TestSet(t *testing.T) {
	for _, size := range sizes {
		for n := range 7 {
			for _, m := range sizes {
				b, s := text(size), other(m)
				if have, want := Set(b, n, s), slowSet(b, n, s); !bytes.Equal(have, want) {
					t.Fatalf("Set of %d bytes as %d of %d: %x; want %x", m, n, size, have, want)
				}
			}
		}
		for _, n := range strange {
			if have := Set(text(size), n, other(200)); !bytes.Equal(have, text(size)) {
				t.Errorf("Set as %d of %d bytes: %x", n, size, have)
			}
		}
	}
	b := Set(noughts(70), 1, bytes.Repeat([]byte{7}, 65))
	if want := append(noughts(64), 7, 7, 7, 7, 7, 7); !bytes.Equal(b, want) {
		t.Errorf("%x", b)
	}
}

func TestSize(t *testing.T) {
	for _, size := range sizes {
		for n := range 200 {
			if have, want := Size(text(size), n), slowSize(text(size), n); !bytes.Equal(have, want) {
				t.Fatalf("Size %d of %d bytes: %x", n, size, have)
			}
		}
		for _, n := range []int{math.MinInt, math.MinInt32, -65, -64, -1} {
			if have := Size(text(size), n); len(have) != 0 {
				t.Errorf("Size %d of %d bytes: %x", n, size, have)
			}
		}
	}
	long := Size(text(3), 1<<20)
	if len(long) != 1<<20 || !bytes.Equal(long[:3], text(3)) || bytes.Count(long, []byte{0}) != 1<<20-3 {
		t.Errorf("Size 2^20 of 3 bytes: %d", len(long))
	}
}

// More bytes than an answer may have are promised nowhere, but no call panics.
func TestSizeBeyondTheBound(t *testing.T) {
	for _, n := range []int{1 << 31, 1 << 40, 1 << 62, math.MaxInt} {
		if have := Size(text(3), n); len(have) != 0 {
			t.Errorf("Size %d: %d bytes", n, len(have))
		}
	}
	if l := lines(Pieces(math.MaxInt, []byte{9})); !slices.Equal(l, []string{"144115188075855871 from 63: 09"}) {
		t.Errorf("%q", l)
	}
}

// P5.3

func TestWhatIsWrittenStands(t *testing.T) {
	for _, size := range sizes {
		for at := range 200 {
			for _, m := range sizes {
				old, more := text(size), other(m)
				b := Size(old, max(size, at+m))
				for _, p := range Pieces(at, more) {
					b = Set(b, p.Sector, Lay(At(b, p.Sector), p))
				}
				if want := written(old, at, more); !bytes.Equal(b, want) {
					t.Fatalf("%d bytes written into %d at %d: %x; want %x", m, size, at, b, want)
				}
			}
		}
	}
}

func TestPiecesInAnyOrder(t *testing.T) {
	old, more := text(300), other(180)
	for _, at := range []int{0, 1, 40, 63, 64, 100, 120, 200} {
		b := Size(old, max(300, at+180))
		l := Pieces(at, more)
		slices.Reverse(l)
		for _, p := range l {
			b = Set(b, p.Sector, Lay(At(b, p.Sector), p))
		}
		if !bytes.Equal(b, written(old, at, more)) {
			t.Errorf("written backwards at %d: %x", at, b)
		}
	}
}

func TestSectorsOfBytesMakeThem(t *testing.T) {
	for _, size := range sizes {
		want := text(size)
		var all []byte
		b := other(size)
		for n := range Count(size) {
			all = append(all, At(want, n)...)
			b = Set(b, n, At(want, n))
		}
		if !bytes.Equal(Size(all, size), want) || !bytes.Equal(b, want) {
			t.Errorf("%d bytes, sector by sector: %x, %x", size, all, b)
		}
	}
}

// What is handed in, with the room behind it, stays, and is not shared.

// roomy tells n bytes, and them with as many more behind them.
func roomy(n int) (b, all []byte) {
	all = text(2*n + 200)
	return all[:n], all
}

// spoil changes bytes, with the room behind them.
func spoil(b []byte) {
	b = b[:cap(b)]
	for i := range b {
		b[i] = 0xee
	}
}

func TestGivenBytesStay(t *testing.T) {
	for name, do := range map[string]func(b []byte) []byte{
		"Lay over":       func(b []byte) []byte { return Lay(b, Piece{From: 1, Data: []byte{9}}) },
		"Lay":            func(b []byte) []byte { return Lay([]byte{1, 2, 3}, Piece{From: 1, Data: b}) },
		"Lay at 64":      func(b []byte) []byte { return Lay(b, Piece{From: 64, Data: []byte{9}}) },
		"Lay below 0":    func(b []byte) []byte { return Lay(b, Piece{From: -1, Data: []byte{9}}) },
		"At 0":           func(b []byte) []byte { return At(b, 0) },
		"At 1":           func(b []byte) []byte { return At(b, 1) },
		"At -1":          func(b []byte) []byte { return At(b, -1) },
		"Set of":         func(b []byte) []byte { return Set(b, 1, other(64)) },
		"Set of none":    func(b []byte) []byte { return Set(b, 9, other(64)) },
		"Set of below 0": func(b []byte) []byte { return Set(b, -1, other(64)) },
		"Set":            func(b []byte) []byte { return Set(text(100), 0, b) },
		"Set at the end": func(b []byte) []byte { return Set(text(100), 1, b) },
		"Size 5":         func(b []byte) []byte { return Size(b, 5) },
		"Size 100":       func(b []byte) []byte { return Size(b, 100) },
		"Size of all":    func(b []byte) []byte { return Size(b, len(b)) },
	} {
		for _, n := range sizes {
			b, all := roomy(n)
			kept := bytes.Clone(all)
			want := bytes.Clone(do(b))
			spoil(do(b))
			if !bytes.Equal(all, kept) {
				t.Fatalf("%s of %d bytes shares or changes them: %x", name, n, all)
			}
			have := do(b)
			spoil(all)
			if !bytes.Equal(have, want) {
				t.Fatalf("%s of %d bytes changes with them: %x; want %x", name, n, have, want)
			}
		}
	}
}

func TestPiecesAreTheirOwn(t *testing.T) {
	for _, n := range sizes {
		for _, at := range []int{0, 1, 63, 64, 100} {
			b, all := roomy(n)
			kept := bytes.Clone(all)
			want := slowPieces(at, bytes.Clone(b))
			l := Pieces(at, b)
			for i := range l {
				if !slices.Equal(lines(l[i:]), lines(want[i:])) {
					t.Fatalf("pieces of %d bytes at %d share their bytes: %q", n, at, lines(l))
				}
				spoil(l[i].Data)
			}
			if !bytes.Equal(all, kept) {
				t.Fatalf("pieces of %d bytes at %d share them: %x", n, at, all)
			}
			l = Pieces(at, b)
			spoil(all)
			if !slices.Equal(lines(l), lines(want)) {
				t.Fatalf("pieces of %d bytes at %d change with them: %q", n, at, lines(l))
			}
		}
	}
}
