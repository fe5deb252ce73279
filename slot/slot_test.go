package slot

import (
	"bytes"
	"encoding/binary"
	"hash/crc32"
	"math"
	"math/rand"
	"slices"
	"testing"

	"logbook/crc"
	"logbook/head"
)

// words are such as a slot may have in its Count, its First and its Last, which are any.
var words = []uint64{0, 1, 255, 256, 258, 1<<32 - 1, 1 << 32, 0x0807060504030201, 1<<63 - 1, 1 << 63, math.MaxUint64 - 1, math.MaxUint64}

// turns are such as a slot may have.
var turns = []uint64{1, 2, 3, 4, 5, 8, 255, 256, 257, 1<<32 - 1, 1 << 32, 1<<32 | 1, 1<<63 - 1, 1 << 63, 1<<63 | 1, math.MaxUint64 - 1, math.MaxUint64}

// tails are such as a slot may have.
var tails = []uint64{0, 8, 16, 24, 64, 256, 272, 304, 800, 1 << 20, 1 << 32, 1<<32 | 8, 1<<63 - 8, 1 << 63, 1<<63 | 8, math.MaxUint64 - 15, math.MaxUint64 - 7}

// noTails are such as no slot may have.
var noTails = []uint64{1, 2, 3, 4, 5, 6, 7, 9, 12, 15, 17, 20, 801, 802, 804, 1<<20 | 4, 1<<32 - 1, 1<<32 | 1, 1<<32 | 4, 1<<63 - 4, 1<<63 | 1, 1<<63 | 4, math.MaxUint64 - 3, math.MaxUint64 - 1, math.MaxUint64}

// noStates are such as no slot may have; many of them would do, if not all of their bits counted.
var noStates = []uint64{0, 3, 4, 5, 6, 255, 256, 257, 258, 1 << 16, 1<<16 | 1, 1 << 32, 1<<32 | 1, 1<<32 | 2, 1 << 63, 1<<63 | 1, 1<<63 | 2, math.MaxUint64 - 1, math.MaxUint64}

// eachRight goes through slots that may be.
func eachRight(do func(Slot)) {
	for i, turn := range turns {
		for j, tail := range tails {
			n := i*len(tails) + j
			do(Slot{turn, tail, words[n%len(words)], words[n/2%len(words)], words[n/3%len(words)], uint64(n%2 + 1)})
		}
	}
	for _, x := range words {
		do(Slot{1, 0, x, 0, 0, 1})
		do(Slot{1, 0, 0, x, 0, 1})
		do(Slot{1, 0, 0, 0, x, 1})
		do(Slot{math.MaxUint64, 8, x, x, x, 2})
	}
}

// wrong are slots that may not be.
func wrong() []Slot {
	l := []Slot{{}, {0, 8, 1, 1, 1, 1}, {0, 0, 0, 0, 0, 2}, {0, 8, 1, 1, 1, 0}, {0, 9, 1, 1, 1, 3}}
	for _, tail := range noTails {
		l = append(l, Slot{1, tail, 1, 1, 1, 1}, Slot{2, tail, 1, 1, 1, 2}, Slot{0, tail, 1, 1, 1, 1}, Slot{1, tail, 1, 1, 1, 0})
	}
	for _, state := range noStates {
		l = append(l, Slot{1, 800, 3, 1, 3, state}, Slot{math.MaxUint64, 0, 0, 0, 0, state}, Slot{0, 800, 3, 1, 3, state})
	}
	return l
}

// summed tells 48 bytes, their sum, and noughts, by the chapter's words alone.
func summed(front []byte) []byte {
	b := binary.LittleEndian.AppendUint32(slices.Clone(front), crc32.ChecksumIEEE(front))
	return append(b, make([]byte, 64-len(b))...)
}

// front tells what stands ahead of the sum.
func front(s Slot) []byte {
	var b []byte
	for _, n := range []uint64{s.Turn, s.Tail, s.Count, s.First, s.Last, s.State} {
		b = binary.LittleEndian.AppendUint64(b, n)
	}
	return b
}

// laid tells the bytes that stand for a slot.
func laid(s Slot) []byte { return summed(front(s)) }

// one is a slot as a file has them.
var one = Slot{Turn: 4, Tail: 800, Count: 3, First: 1, Last: 3, State: Online}

// P11.1

func TestStates(t *testing.T) {
	if Online != 1 || Archived != 2 {
		t.Error(Online, Archived)
	}
}

func TestRight(t *testing.T) {
	for turn := range uint64(4) {
		for tail := range uint64(300) {
			for state := range uint64(300) {
				want := turn != 0 && tail&7 == 0 && (state == 1 || state == 2)
				if s := (Slot{turn, tail, 3, 1, 3, state}); s.Right() != want {
					t.Fatal(s, s.Right())
				}
			}
		}
	}
	for _, s := range wrong() {
		if s.Right() {
			t.Error(s, "is right")
		}
	}
}

// How many entries there are, and what their numbers are, doesn't matter.
func TestRightByNothingElse(t *testing.T) {
	eachRight(func(s Slot) {
		if !s.Right() {
			t.Error(s, "isn't right")
		}
		for _, g := range []Slot{{0, s.Tail, s.Count, s.First, s.Last, s.State}, {s.Turn, s.Tail + 4, s.Count, s.First, s.Last, s.State}, {s.Turn, s.Tail, s.Count, s.First, s.Last, 3}} {
			if g.Right() {
				t.Error(g, "is right")
			}
		}
	})
}

func TestPlace(t *testing.T) {
	for n := range uint64(1000) {
		if at := (Slot{Turn: n}).Place(); at != 64+int(n%2)*64 || at != head.Slot(int(n)) {
			t.Error(n, at)
		}
	}
	for _, c := range []struct {
		turn uint64
		want int
	}{
		{1<<32 - 1, 128}, {1 << 32, 64}, {1<<32 | 1, 128}, {1<<63 - 1, 128}, {1 << 63, 64}, {1<<63 | 1, 128}, {math.MaxUint64 - 1, 64}, {math.MaxUint64, 128},
	} {
		if at := (Slot{Turn: c.turn}).Place(); at != c.want {
			t.Error(c.turn, at)
		}
	}
}

// It hangs on the turn alone.
func TestPlaceByNothingElse(t *testing.T) {
	eachRight(func(s Slot) {
		if s.Place() != (Slot{Turn: s.Turn}).Place() {
			t.Error(s, s.Place())
		}
	})
}

// P11.2

func TestEncode(t *testing.T) {
	table := crc.Make()
	for _, c := range []struct {
		s    Slot
		want []byte
	}{
		{Slot{Turn: 1, State: Online}, []byte{
			1, 0, 0, 0, 0, 0, 0, 0, 0, 0, 0, 0, 0, 0, 0, 0, 0, 0, 0, 0, 0, 0, 0, 0,
			0, 0, 0, 0, 0, 0, 0, 0, 0, 0, 0, 0, 0, 0, 0, 0, 1, 0, 0, 0, 0, 0, 0, 0,
			0xd7, 0x5f, 0x93, 0x03, 0, 0, 0, 0, 0, 0, 0, 0, 0, 0, 0, 0}},
		{one, []byte{
			4, 0, 0, 0, 0, 0, 0, 0, 32, 3, 0, 0, 0, 0, 0, 0, 3, 0, 0, 0, 0, 0, 0, 0,
			1, 0, 0, 0, 0, 0, 0, 0, 3, 0, 0, 0, 0, 0, 0, 0, 1, 0, 0, 0, 0, 0, 0, 0,
			0x57, 0xc4, 0x33, 0x48, 0, 0, 0, 0, 0, 0, 0, 0, 0, 0, 0, 0}},
		{Slot{0x0807060504030201, 0x1817161514131210, 0x2827262524232221, 0x3837363534333231, 0x4847464544434241, Archived}, []byte{
			1, 2, 3, 4, 5, 6, 7, 8, 16, 18, 19, 20, 21, 22, 23, 24, 33, 34, 35, 36, 37, 38, 39, 40,
			49, 50, 51, 52, 53, 54, 55, 56, 65, 66, 67, 68, 69, 70, 71, 72, 2, 0, 0, 0, 0, 0, 0, 0,
			0x95, 0x27, 0x3e, 0x2b, 0, 0, 0, 0, 0, 0, 0, 0, 0, 0, 0, 0}},
		{Slot{math.MaxUint64, math.MaxUint64 - 7, math.MaxUint64, math.MaxUint64, math.MaxUint64, Archived}, []byte{
			255, 255, 255, 255, 255, 255, 255, 255, 248, 255, 255, 255, 255, 255, 255, 255, 255, 255, 255, 255, 255, 255, 255, 255,
			255, 255, 255, 255, 255, 255, 255, 255, 255, 255, 255, 255, 255, 255, 255, 255, 2, 0, 0, 0, 0, 0, 0, 0,
			0x81, 0xe3, 0x66, 0x1a, 0, 0, 0, 0, 0, 0, 0, 0, 0, 0, 0, 0}},
	} {
		if b := c.s.Encode(table); !bytes.Equal(b, c.want) {
			t.Errorf("%v %#v", c.s, b)
		}
	}
	eachRight(func(s Slot) {
		if b := s.Encode(table); !bytes.Equal(b, laid(s)) {
			t.Error(s, b)
		}
	})
}

func TestEncodeOfWhatIsNotRight(t *testing.T) {
	table := crc.Make()
	for _, s := range wrong() {
		if b := s.Encode(table); len(b) != 0 {
			t.Error(s, b)
		}
	}
}

func TestDecode(t *testing.T) {
	table := crc.Make()
	eachRight(func(s Slot) {
		for _, behind := range [][]byte{nil, {0}, {255}, make([]byte, 64), bytes.Repeat([]byte{7}, 300), laid(one)} {
			if g, ok := Decode(table, append(laid(s), behind...)); !ok || g != s {
				t.Error(s, "with", len(behind), "bytes behind it:", g, ok)
			}
		}
	})
}

// none looks that bytes begin with no slot.
func none(t *testing.T, what string, table *crc.Table, b []byte) {
	t.Helper()
	if s, ok := Decode(table, b); ok || s != (Slot{}) {
		t.Error(what, b, s, ok)
	}
}

func TestDecodeWhatIsNotWhole(t *testing.T) {
	table := crc.Make()
	none(t, "nothing", table, nil)
	eachRight(func(s Slot) {
		b := laid(s)
		for n := range b {
			none(t, "cut", table, b[:n])
			none(t, "cut, with no room", table, bytes.Clone(b[:n]))
		}
	})
}

// It is looked for at the begin alone.
func TestDecodeWhatStandsElsewhere(t *testing.T) {
	table := crc.Make()
	b := laid(one)
	for n := 1; n <= 128; n++ {
		none(t, "behind noughts", table, append(make([]byte, n), b...))
	}
	for n := 1; n < 64; n++ {
		none(t, "its rest", table, append(bytes.Clone(b[n:]), make([]byte, 64)...))
	}
}

func TestDecodeWhatIsChanged(t *testing.T) {
	table := crc.Make()
	for _, s := range []Slot{{Turn: 1, State: Online}, one, {math.MaxUint64, math.MaxUint64 - 7, math.MaxUint64, math.MaxUint64, math.MaxUint64, Archived}} {
		b := append(laid(s), laid(s)...)
		for i := range 64 {
			was := b[i]
			for x := range 256 {
				b[i] = byte(x)
				if byte(x) != was {
					none(t, "changed", table, b)
				}
			}
			b[i] = was
		}
	}
}

// Bytes whose sum is right have a slot just if all else is, too.
func TestDecodeWhatIsSummedAnew(t *testing.T) {
	table := crc.Make()
	f := front(one)
	for i := 52; i < 64; i++ {
		for _, x := range []byte{1, 0x80, 0xff} {
			b := summed(f)
			b[i] = x
			none(t, "no noughts", table, b)
		}
	}
	none(t, "a word too few", table, summed(f[:40]))
	none(t, "a word too many", table, summed(append(bytes.Clone(f), make([]byte, 8)...)))
	none(t, "noughts", table, make([]byte, 64))
	none(t, "summed noughts", table, summed(make([]byte, 48)))
}

// The sum is of what stands ahead of it, no more and no less, the least byte first.
func TestDecodeByAnotherSum(t *testing.T) {
	table := crc.Make()
	b := laid(one)
	for _, sum := range []uint32{0, math.MaxUint32, ^crc32.ChecksumIEEE(b[:48]), crc32.ChecksumIEEE(b[8:48]), crc32.ChecksumIEEE(b[:40]), crc32.ChecksumIEEE(append(bytes.Clone(b[:48]), make([]byte, 16)...))} {
		other := bytes.Clone(b)
		binary.LittleEndian.PutUint32(other[48:], sum)
		none(t, "another sum", table, other)
	}
	other := bytes.Clone(b)
	slices.Reverse(other[48:52])
	none(t, "its sum the other way round", table, other)
}

// What isn't right is no slot, its sum be right or not.
func TestDecodeOfWhatIsNotRight(t *testing.T) {
	table := crc.Make()
	for _, s := range wrong() {
		none(t, "what isn't right", table, laid(s))
	}
	for i := range 64 {
		for j, s := range []Slot{{1 << i, 8, 1, 1, 1, 1}, {1, 1 << i, 1, 1, 1, 1}, {1, 8, 1, 1, 1, 1 << i}} {
			want := j == 0 || j == 1 && i >= 3 || j == 2 && i <= 1
			if g, ok := Decode(table, laid(s)); ok != want || ok && g != s || !ok && g != (Slot{}) {
				t.Error("bit", i, s, g, ok)
			}
		}
	}
}

// A header is no slot, but where its words are such as a slot may have.
func TestDecodeOfHeaders(t *testing.T) {
	table := crc.Make()
	magic := binary.LittleEndian.Uint64([]byte(head.Magic))
	for id := range uint64(20) {
		for made := range uint64(5) {
			s := Slot{magic, id, 9, 4, 2, made}
			g, ok := Decode(table, head.Head{ID: id, Key: 9, Data: 4, Fields: 2, Made: made}.Encode(table))
			if ok != s.Right() || ok && g != s || !ok && g != (Slot{}) {
				t.Error(id, made, g, ok)
			}
		}
	}
}

func TestWhatIsEncodedIsDecoded(t *testing.T) {
	table := crc.Make()
	eachRight(func(s Slot) {
		if g, ok := Decode(table, s.Encode(table)); !ok || g != s {
			t.Error(s, g, ok)
		}
	})
	r := rand.New(rand.NewSource(11))
	for range 20000 {
		s := Slot{r.Uint64() >> r.Intn(64), r.Uint64() >> r.Intn(64) << r.Intn(5), r.Uint64(), r.Uint64(), r.Uint64(), uint64(r.Intn(4))}
		b := s.Encode(table)
		g, ok := Decode(table, b)
		if right := s.Right(); ok != right || right && (g != s || len(b) != 64) || !right && (g != (Slot{}) || len(b) != 0) {
			t.Fatal(s, b, g, ok)
		}
	}
}

// isAsItStood looks that what is decoded is encoded as it stood there.
func isAsItStood(t *testing.T, b []byte) {
	t.Helper()
	table := crc.Make()
	s, ok := Decode(table, b)
	if !ok {
		none(t, "none", table, b)
	} else if !s.Right() || !bytes.Equal(s.Encode(table), b[:64]) {
		t.Fatal(b, s)
	}
}

func FuzzDecode(f *testing.F) {
	eachRight(func(s Slot) { f.Add(laid(s)) })
	f.Fuzz(func(t *testing.T, b []byte) {
		isAsItStood(t, b)
		if len(b) >= 48 {
			isAsItStood(t, summed(b[:48]))
		}
	})
}

// P11.3

// withSlots tells a file's bytes, all x but for those of two slots.
func withSlots(x byte, first, second []byte) []byte {
	b := bytes.Repeat([]byte{x}, 400)
	copy(b[64:128], first)
	copy(b[128:192], second)
	return b
}

// chosen looks that a file has a slot.
func chosen(t *testing.T, table *crc.Table, b []byte, want Slot) {
	t.Helper()
	if s, ok := Choose(table, b); !ok || s != want {
		t.Error(s, ok, "not", want)
	}
}

// noneChosen looks that a file has no slot.
func noneChosen(t *testing.T, table *crc.Table, b []byte) {
	t.Helper()
	if s, ok := Choose(table, b); ok || s != (Slot{}) {
		t.Error(len(b), "bytes:", s, ok)
	}
}

func TestChooseOfOne(t *testing.T) {
	table := crc.Make()
	bad := laid(Slot{Turn: math.MaxUint64, Tail: 8, State: Archived})
	bad[48]++
	eachRight(func(s Slot) {
		for _, other := range [][]byte{nil, make([]byte, 64), bad, laid(s)[:63], laid(Slot{Turn: math.MaxUint64, Tail: 4, State: Archived}), laid(Slot{Turn: math.MaxUint64, State: 3})} {
			for _, x := range []byte{0, 255} {
				chosen(t, table, withSlots(x, laid(s), other), s)
				chosen(t, table, withSlots(x, other, laid(s)), s)
			}
		}
	})
}

func TestChooseOfTwo(t *testing.T) {
	table := crc.Make()
	for i, turn := range turns {
		for j, other := range turns {
			first := Slot{turn, 800, uint64(j), 1, 9, uint64(j%2 + 1)}
			second := Slot{other, 400, uint64(i), 2, 5, uint64(i%2 + 1)}
			want := first
			if other > turn {
				want = second
			}
			chosen(t, table, withSlots(7, laid(first), laid(second)), want)
		}
	}
}

// Of two of one turn it is the first, whatever else they have.
func TestChooseOfAlikeTurns(t *testing.T) {
	table := crc.Make()
	for _, turn := range turns {
		low, high := Slot{turn, 0, 0, 0, 0, Online}, Slot{turn, 800, 9, 9, 9, Archived}
		chosen(t, table, withSlots(0, laid(low), laid(high)), low)
		chosen(t, table, withSlots(0, laid(high), laid(low)), high)
		chosen(t, table, withSlots(0, laid(high), laid(high)), high)
	}
}

func TestChooseOfNone(t *testing.T) {
	table := crc.Make()
	noneChosen(t, table, nil)
	for n := range 400 {
		noneChosen(t, table, make([]byte, n))
		noneChosen(t, table, bytes.Repeat([]byte{255}, n))
	}
	for _, s := range wrong() {
		noneChosen(t, table, withSlots(0, laid(s), laid(s)))
	}
	for i := range 64 {
		bad := laid(one)
		bad[i] ^= 0x40
		noneChosen(t, table, withSlots(0, bad, bad))
	}
}

// A file may end within its slots, or ahead of them.
func TestChooseOfWhatIsCut(t *testing.T) {
	table := crc.Make()
	later := Slot{Turn: 5, Tail: 880, Count: 4, First: 1, Last: 4, State: Archived}
	b := withSlots(0, laid(one), laid(later))
	alone := withSlots(0, nil, laid(later))
	for n := range len(b) + 1 {
		cut, cutAlone := bytes.Clone(b[:n]), bytes.Clone(alone[:n])
		switch {
		case n < 128:
			noneChosen(t, table, b[:n])
			noneChosen(t, table, cut)
		case n < 192:
			chosen(t, table, b[:n], one)
			chosen(t, table, cut, one)
			noneChosen(t, table, alone[:n])
			noneChosen(t, table, cutAlone)
		default:
			chosen(t, table, b[:n], later)
			chosen(t, table, cut, later)
			chosen(t, table, cutAlone, later)
		}
	}
}

// Slots are looked for at their two places alone.
func TestChooseOfWhatStandsElsewhere(t *testing.T) {
	table := crc.Make()
	for at := range 336 {
		b := make([]byte, 400)
		copy(b[at:], laid(one))
		if at == 64 || at == 128 {
			chosen(t, table, b, one)
		} else {
			noneChosen(t, table, b)
		}
	}
}

// A file's header may read as a slot, too, and what stands behind its slots as well: they don't count.
func TestChooseOfAWholeFile(t *testing.T) {
	table := crc.Make()
	b := withSlots(0, laid(one), nil)
	copy(b, head.Head{ID: 8, Key: 9, Data: 4, Fields: 2, Made: 1}.Encode(table))
	copy(b[192:], laid(Slot{Turn: math.MaxUint64, Tail: 8, State: Archived}))
	if _, ok := Decode(table, b); !ok {
		t.Error("the header doesn't read as a slot")
	}
	chosen(t, table, b, one)
	clear(b[64:192])
	noneChosen(t, table, b)
}

// Written turn by turn, each at its place, the last one that was written whole counts.
func TestChooseTurnByTurn(t *testing.T) {
	table := crc.Make()
	b := make([]byte, 256)
	last := Slot{}
	for turn := uint64(1); turn < 50; turn++ {
		s := Slot{turn, 8 * turn, turn, 1, turn, Online}
		for n := range 52 {
			half := bytes.Clone(b)
			copy(half[s.Place():], bytes.Repeat([]byte{0xee}, n))
			if turn == 1 {
				noneChosen(t, table, half)
			} else {
				chosen(t, table, half, last)
			}
		}
		copy(b[s.Place():], s.Encode(table))
		chosen(t, table, b, s)
		last = s
	}
}

func FuzzChoose(f *testing.F) {
	f.Add(laid(one), laid(Slot{Turn: 5, State: Archived}), byte(0))
	f.Add(laid(one), laid(one), byte(255))
	f.Add([]byte{}, laid(one)[:52], byte(1))
	f.Fuzz(func(t *testing.T, first, second []byte, x byte) {
		table := crc.Make()
		b := withSlots(x, first, second)
		want, is := Decode(table, b[64:])
		if s, ok := Decode(table, b[128:]); ok && (!is || s.Turn > want.Turn) {
			want, is = s, true
		}
		if s, ok := Choose(table, b); ok != is || s != want {
			t.Fatal(s, ok, want, is)
		}
	})
}

// What is handed in is neither changed nor kept, and what is told is new.

func TestEncodeTellsWhatIsNew(t *testing.T) {
	table := crc.Make()
	b := one.Encode(table)
	clear(b[:cap(b)])
	if !bytes.Equal(one.Encode(table), laid(one)) || *table != *crc.Make() {
		t.Error("what was told is kept:", one.Encode(table))
	}
}

func TestDecodeLeavesWhatIsHandedIn(t *testing.T) {
	table := crc.Make()
	room := append(laid(one), 1, 2, 3, 4, 5)
	for _, n := range []int{63, 64, 65, len(room)} {
		s, ok := Decode(table, room[:n])
		if ok != (n >= 64) || ok && s != one || !bytes.Equal(room, append(laid(one), 1, 2, 3, 4, 5)) || *table != *crc.Make() {
			t.Error(n, room, s, ok)
		}
	}
}

func TestChooseLeavesWhatIsHandedIn(t *testing.T) {
	table := crc.Make()
	room := withSlots(7, laid(one), laid(Slot{Turn: 5, State: Archived}))
	was := bytes.Clone(room)
	for n := range room {
		Choose(table, room[:n])
		if !bytes.Equal(room, was) || *table != *crc.Make() {
			t.Fatal(n, room)
		}
	}
}

// A sum by no table is 0; nothing more is asked of it than that it doesn't panic.
func TestNoTable(t *testing.T) {
	if b := one.Encode(nil); len(b) != 64 || !bytes.Equal(b[:48], front(one)) {
		t.Error(b)
	}
	none(t, "by no table", nil, laid(one))
	noneChosen(t, nil, withSlots(0, laid(one), laid(one)))
}

// The example of the document.

func TestExample(t *testing.T) {
	table := crc.Make()
	b := append(head.Head{ID: 7, Key: 8, Data: 4, Fields: 2, Made: 9}.Encode(table), make([]byte, 240)...)
	noneChosen(t, table, b)
}
