package clip

import (
	"bytes"
	"encoding/binary"
	"math"
	"slices"
	"testing"

	"logbook/api"
	"logbook/crc"
	"logbook/head"
	"logbook/image"
	"logbook/obj"
	"logbook/slot"
)

// one is a header as files have them; its objects begin at 304.
var one = head.Head{ID: 7, Key: 8, Data: 4, Fields: 2, Made: 9}

// far are places that no file has.
var far = []int{math.MinInt, math.MinInt + 8, math.MinInt + 304, -1 << 32, -1<<32 | 304, -304, -8, -1, 1 << 20, 1<<20 | 304, 1 << 32, 1<<32 | 304, 1 << 62, math.MaxInt - 15, math.MaxInt - 7, math.MaxInt}

// wrong are headers that may not be.
func wrong() []head.Head {
	l := []head.Head{{}, {ID: 7, Key: 8, Made: 9}}
	for _, n := range []int{math.MinInt, math.MinInt + 1, -1 << 32, -256, -1, 0, 257, 512, 1 << 32, 1<<32 | 4, 1 << 60, math.MaxInt / 8, math.MaxInt} {
		l = append(l, head.Head{ID: 7, Data: n, Fields: 2}, head.Head{ID: 7, Data: 4, Fields: n}, head.Head{ID: 7, Data: n, Fields: n})
	}
	return l
}

// part is an object of a file, with the words of it that say places which may come later, by numbers alone.
type part struct {
	at, end int
	words   []int
}

// rootAndTables are those words of a file of one that lie ahead of its objects.
var rootAndTables = []int{192, 256, 264, 272, 280, 288, 296}

// some is a file of one, with objects of every kind; all words that may say places are 0.
func some() ([]byte, []part) {
	b := make([]byte, 304)
	copy(b, one.Encode(crc.Make()))
	for _, o := range []obj.Object{
		{Kind: obj.Data, Words: []uint64{99, 0, 0, 0, 0}, Raw: []byte("A=1")},
		{Kind: obj.Field, Words: []uint64{99, 0, 0}, Raw: []byte("A")},
		{Kind: obj.Data, Words: []uint64{99, 0, 0, 0, 0}, Raw: []byte("B=234567")},
		{Kind: obj.Entry, Words: []uint64{1, 2, 3, 4, 5}, Items: []uint64{304, 416}},
		{Kind: obj.Array, Words: []uint64{0}, Items: make([]uint64, 4)},
		{Kind: obj.Array, Words: []uint64{0}, Items: make([]uint64, 1)},
		{Kind: obj.Entry, Words: []uint64{6, 7, 8, 9, 10}, Items: []uint64{304}},
		{Kind: obj.Field, Words: []uint64{99, 0, 0}, Raw: []byte("LONGFIELD")},
	} {
		b = append(b, obj.Encode(o)...)
	}
	return b, []part{
		{304, 368, []int{328, 336, 344, 352}}, {368, 416, []int{392, 400}},
		{416, 480, []int{440, 448, 456, 464}}, {480, 552, nil},
		{552, 608, []int{568, 576, 584, 592, 600}}, {608, 640, []int{624, 632}},
		{640, 704, nil}, {704, 760, []int{728, 736}},
	}
}

// wordsOf tells the words of a file of one with these objects.
func wordsOf(l []part) []int {
	all := slices.Clone(rootAndTables)
	for _, x := range l {
		all = append(all, x.words...)
	}
	return all
}

// upTo tells those objects that end at a place at most.
func upTo(l []part, end int) []part {
	n := 0
	for n < len(l) && l[n].end <= end {
		n++
	}
	return l[:n]
}

func setWord(b []byte, at int, n uint64) { binary.LittleEndian.PutUint64(b[at:], n) }

// breaks are ways in which no object stands at a place any more.
var breaks = []func(b []byte, at int){
	func(b []byte, at int) { b[at] = 0 },
	func(b []byte, at int) { b[at] = 5 },
	func(b []byte, at int) { b[at+7] = 1 },
	func(b []byte, at int) { setWord(b, at+8, 0) },
	func(b []byte, at int) { setWord(b, at+8, math.MaxUint64) },
	func(b []byte, at int) { setWord(b, at+8, 1<<20) },
}

// P18.1

func isWords(t *testing.T, what any, h head.Head, b []byte, tail int, want []int) {
	t.Helper()
	if l := Words(h, b, tail); !slices.Equal(l, want) {
		t.Fatal("Words", what, tail, l, want)
	}
}

func TestWords(t *testing.T) {
	b, l := some()
	if len(b) != 760 {
		t.Fatal(len(b))
	}
	isWords(t, "of some", one, b, 760, []int{
		192, 256, 264, 272, 280, 288, 296,
		328, 336, 344, 352, 392, 400, 440, 448, 456, 464,
		568, 576, 584, 592, 600, 624, 632, 728, 736,
	})
	// Whatever stands there.
	for i, at := range wordsOf(l) {
		setWord(b, at, uint64(i)<<(8*(i%8)))
	}
	isWords(t, "of numbers", one, b, 760, wordsOf(l))
}

func TestWordsUpToEachPlace(t *testing.T) {
	b, l := some()
	for tail := -100; tail < len(b)+100; tail++ {
		isWords(t, "up to", one, b, tail, wordsOf(upTo(l, tail)))
	}
	for _, tail := range far {
		isWords(t, "far", one, b, tail, wordsOf(upTo(l, tail)))
	}
}

// The root and the tables are told whether they are there or not.
func TestWordsOfFewerBytes(t *testing.T) {
	b, l := some()
	for n := range len(b) {
		isWords(t, n, one, b[:n], len(b), wordsOf(upTo(l, n)))
		isWords(t, n, one, b[:n], n, wordsOf(upTo(l, n)))
	}
	isWords(t, "of nothing", one, nil, 0, rootAndTables)
	isWords(t, "of nothing", one, nil, 760, rootAndTables)
}

// Behind a place where no object stands there are no more.
func TestWordsUpToNone(t *testing.T) {
	_, l := some()
	for i, x := range breaks {
		for n, bad := range l {
			b, _ := some()
			x(b, bad.at)
			isWords(t, i, one, b, len(b), wordsOf(l[:n]))
		}
	}
}

func TestWordsOfEachHeader(t *testing.T) {
	b, l := some()
	for data := 1; data <= 256; data += 5 {
		for _, fields := range []int{1, 2, 100, 255, 256} {
			h := head.Head{ID: 1, Data: data, Fields: fields}
			want := []int{192}
			for at := 256; at < 256+8*(data+fields); at += 8 {
				want = append(want, at)
			}
			isWords(t, h, h, nil, 1<<20, want)
			// Objects of another place.
			shift := 8*(data+fields) - 48
			for _, x := range l {
				for _, at := range x.words {
					want = append(want, at+shift)
				}
			}
			isWords(t, h, h, append(make([]byte, 304+shift), b[304:]...), 1<<20, want)
		}
	}
}

// Of such a one nothing is promised, but that it ends.
func TestWordsOfAWrongHeader(t *testing.T) {
	b, _ := some()
	for _, h := range wrong() {
		isWords(t, h, h, b, len(b), nil)
		isWords(t, h, h, nil, math.MaxInt, nil)
	}
}

// An array may have 1024 places.
func TestWordsOfLongOnes(t *testing.T) {
	b := make([]byte, 304)
	b = append(b, obj.Encode(obj.Object{Kind: obj.Array, Words: []uint64{1}, Items: make([]uint64, 1024)})...)
	b = append(b, obj.Encode(obj.Object{Kind: obj.Data, Words: make([]uint64, 5), Raw: bytes.Repeat(b[304:312], 128)})...)
	b = append(b, obj.Encode(obj.Object{Kind: obj.Entry, Words: make([]uint64, 5), Items: make([]uint64, 64)})...)
	want := slices.Clone(rootAndTables)
	for i := range 1025 {
		want = append(want, 304+16+8*i)
	}
	data := 304 + 24 + 8*1024
	isWords(t, "of long ones", one, b, len(b), append(want, data+24, data+32, data+40, data+48))
}

// Words are gone through up to each one of them, and again.
func TestWordsStopped(t *testing.T) {
	b, l := some()
	want := wordsOf(l)
	all := words(one, b, len(b))
	for n := range want {
		i := 0
		for at := range all {
			if at != want[i] {
				t.Fatal(n, i, at)
			}
			if i++; i > n {
				break
			}
		}
		if i != n+1 {
			t.Error(n, i)
		}
	}
	if !slices.Equal(slices.Collect(all), want) {
		t.Error("again")
	}
}

func TestWordsKeepsNothing(t *testing.T) {
	b, l := some()
	before := slices.Clone(b)
	first := Words(one, b, len(b))
	clear(first)
	if !slices.Equal(Words(one, b, len(b)), wordsOf(l)) || !bytes.Equal(b, before) {
		t.Error("changed")
	}
}

// P18.2

// isCut looks that bytes are cut to these, and these words told.
func isCut(t *testing.T, what any, h head.Head, b []byte, tail int, want []byte, places []int) {
	t.Helper()
	before := slices.Clone(b)
	c, l, ok := Cut(h, b, tail)
	if !ok || !bytes.Equal(c, want) || !slices.Equal(l, places) {
		t.Fatal("Cut", what, tail, len(c), l, ok)
	}
	if !bytes.Equal(b, before) {
		t.Fatal("Cut", what, "changes what it is given")
	}
}

func isNoCut(t *testing.T, what any, h head.Head, b []byte, tail int) {
	t.Helper()
	if c, l, ok := Cut(h, b, tail); c != nil || l != nil || ok {
		t.Fatal("Cut", what, tail, len(c), l, ok)
	}
}

// Each word, as each number: a place from tail on makes it 0.
func TestCutOfEachWord(t *testing.T) {
	whole, all := some()
	for _, tail := range []int{304, 368, 416, 480, 552, 608, 640, 704, 760} {
		for _, at := range wordsOf(upTo(all, tail)) {
			b := slices.Clone(whole)
			for _, n := range []uint64{0, 1, 192, uint64(at), uint64(tail) - 8, uint64(tail) - 1} {
				setWord(b, at, n)
				isCut(t, n, one, b, tail, b[:tail], nil)
			}
			for _, n := range []uint64{uint64(tail), uint64(tail) + 1, uint64(tail) + 8, 760, 761, 1 << 20, 1 << 32, 1<<32 | 304, 1<<63 | 304, math.MaxInt64, math.MaxUint64 - 303, math.MaxUint64} {
				setWord(b, at, n)
				isCut(t, n, one, b, tail, whole[:tail], []int{at})
			}
		}
	}
}

func TestCutOfAllWords(t *testing.T) {
	whole, all := some()
	for _, x := range append([]part{{end: 304}}, all...) {
		b := slices.Clone(whole)
		for _, at := range wordsOf(all) {
			setWord(b, at, uint64(x.end+at))
		}
		l := wordsOf(upTo(all, x.end))
		isCut(t, "all", one, b, x.end, whole[:x.end], l)
		// Each other one of them says a place that is there.
		want := slices.Clone(whole)
		var places []int
		for i, at := range l {
			if i%2 == 0 {
				setWord(b, at, uint64(x.end)-8)
				setWord(want, at, uint64(x.end)-8)
			} else {
				places = append(places, at)
			}
		}
		isCut(t, "each other", one, b, x.end, want[:x.end], places)
	}
}

// All bytes that are none of the words' stay.
func TestCutLeavesTheOthers(t *testing.T) {
	b, l := some()
	var others []int
	for at := 0; at < 304; at += 8 {
		others = append(others, at)
	}
	// Hashes, an entry's words and items, and bytes of an item and of a field.
	others = append(others, 320, 384, 432, 496, 504, 512, 520, 528, 536, 544, 656, 664, 672, 680, 688, 696, 720, 472, 744)
	for _, at := range others {
		if !slices.Contains(wordsOf(l), at) {
			setWord(b, at, math.MaxUint64)
		}
	}
	b[360], b[361], b[362], b[408], b[752] = 255, 255, 255, 255, 255
	isCut(t, "others", one, b, 760, b, nil)
	setWord(b, 200, 760)
	setWord(b, 248, 760)
	isCut(t, "beside the root", one, b, 760, b, nil)
}

func TestCutAtEachPlace(t *testing.T) {
	b, _ := some()
	ends := []int{304, 368, 416, 480, 552, 608, 640, 704, 760}
	for tail := -100; tail < len(b)+100; tail++ {
		if slices.Contains(ends, tail) {
			isCut(t, "at", one, b, tail, b[:tail], nil)
		} else {
			isNoCut(t, "at", one, b, tail)
		}
	}
	for _, tail := range far {
		isNoCut(t, "far", one, b, tail)
	}
	// There must be all bytes up to tail, and there may be more.
	for n := range b {
		for _, tail := range ends {
			if tail <= n {
				isCut(t, n, one, b[:n], tail, b[:tail], nil)
			} else {
				isNoCut(t, n, one, b[:n], tail)
			}
		}
	}
	isNoCut(t, "nothing", one, nil, 0)
	isNoCut(t, "nothing", one, nil, 304)
}

func TestCutOfNoObjects(t *testing.T) {
	_, l := some()
	for i, x := range breaks {
		for n, bad := range l {
			b, _ := some()
			x(b, bad.at)
			for _, p := range l[:n] {
				isCut(t, i, one, b, p.end, b[:p.end], nil)
			}
			for _, p := range l[n:] {
				isNoCut(t, i, one, b, p.end)
			}
		}
	}
	// What fills an object up isn't noughts.
	b, _ := some()
	b[367] = 1
	isNoCut(t, "filled", one, b, 368)
}

func TestCutOfAWrongHeader(t *testing.T) {
	b, l := some()
	for _, h := range wrong() {
		for _, x := range l {
			isNoCut(t, h, h, b, x.end)
		}
		for _, tail := range append(far, 0, 256, 272, h.Objects(), h.Objects()&(1<<20-8)) {
			isNoCut(t, h, h, b, tail)
			isNoCut(t, h, h, nil, tail)
		}
	}
}

// The header is the one that is handed in, whatever the bytes begin with.
func TestCutOfOtherHeaders(t *testing.T) {
	b, _ := some()
	setWord(b, 288, 760)
	want := slices.Clone(b[:296])
	setWord(want, 288, 0)
	other := head.Head{Data: 1, Fields: 4}
	isCut(t, "of 296", other, b, 296, want, []int{288})
	isNoCut(t, "of 304", other, b, 304)
	clear(b[:64])
	want = slices.Clone(b)
	setWord(want, 288, 0)
	isCut(t, "of noughts", head.Head{Data: 2, Fields: 4}, b, 760, want, []int{288})
}

func TestCutKeepsNothing(t *testing.T) {
	long, _ := some()
	setWord(long, 192, 640)
	setWord(long, 736, 640)
	before := slices.Clone(long)
	c, l, ok := Cut(one, long[:640], 608)
	if !ok || len(c) != 608 || !slices.Equal(l, []int{192}) {
		t.Fatal(len(c), l, ok)
	}
	// What is cut is of its own, and has no room of what was handed in.
	for i := range c {
		c[i]++
	}
	_ = append(c, 1, 2, 3)
	l[0] = 5
	if !bytes.Equal(long, before) {
		t.Error("changed")
	}
	clear(long)
	if c[0] != 'L'+1 {
		t.Error("kept")
	}
}

// P18.3

// file makes the file of some objects with slots, the first one at an even turn's place.
func file(l ...slot.Slot) []byte {
	b, _ := some()
	for _, s := range l {
		copy(b[s.Place():], s.Encode(crc.Make()))
	}
	return b
}

// at is a slot of a turn, that tells of a tail.
func at(turn, tail uint64) slot.Slot {
	return slot.Slot{Turn: turn, Tail: tail, Count: turn + 1, First: turn + 2, Last: turn + 3, State: slot.Online}
}

func isBad(t *testing.T, what any, b []byte) {
	t.Helper()
	m, s, l, e := Open(crc.Make(), b, api.MaxBytes)
	if m != nil || s != (slot.Slot{}) || l != nil || e != api.ErrBad {
		t.Fatal("Open", what, m, s, l, e)
	}
}

// isOpen looks that a file is opened with this slot, as these bytes, and that these words were made noughts.
func isOpen(t *testing.T, what any, b []byte, want slot.Slot, bytesThen []byte, places []int) *image.Image {
	t.Helper()
	before := slices.Clone(b)
	m, s, l, e := Open(crc.Make(), b, api.MaxBytes)
	if e != api.OK || s != want || !slices.Equal(l, places) {
		t.Fatal("Open", what, s, l, e)
	}
	if m.Head() != one || m.Tail() != len(bytesThen) || !bytes.Equal(m.Bytes(), bytesThen) {
		t.Fatal("Open", what, m.Head(), m.Tail())
	}
	if c := m.Change(); c.At != m.Tail() || len(c.Fresh) != 0 || len(c.Words) != 0 {
		t.Fatal("Open", what, c)
	}
	if !bytes.Equal(b, before) {
		t.Fatal("Open", what, "changes what it is given")
	}
	return m
}

func TestOpen(t *testing.T) {
	_, l := some()
	for _, x := range append([]part{{end: 304}}, l...) {
		for turn := uint64(1); turn < 4; turn++ {
			s := at(turn, uint64(x.end))
			b := file(s)
			isOpen(t, turn, b, s, b[:x.end], nil)
			isOpen(t, turn, b[:x.end], s, b[:x.end], nil)
			want := slices.Clone(b)
			for _, place := range wordsOf(l) {
				setWord(b, place, uint64(x.end+place))
			}
			isOpen(t, turn, b, s, want[:x.end], wordsOf(upTo(l, x.end)))
		}
	}
	// All that a slot tells is told.
	s := slot.Slot{Turn: math.MaxUint64, Tail: 552, Count: math.MaxUint64, First: 1 << 63, Last: 3, State: slot.Archived}
	isOpen(t, "archived", file(s), s, file(s)[:552], nil)
}

func TestOpenOfNoHeader(t *testing.T) {
	s := at(1, 760)
	b := file(s)
	for i := range 64 {
		for _, x := range []byte{1, 128, 255} {
			b[i] ^= x
			isBad(t, i, b)
			b[i] ^= x
		}
	}
	isOpen(t, "as it was", b, s, b, nil)
	for n := range b {
		isBad(t, n, b[:n])
	}
	isBad(t, "nothing", nil)
	isBad(t, "noughts", make([]byte, 760))
	// Its sum is right, but its buckets aren't.
	for _, h := range []head.Head{{ID: 7, Data: 4, Fields: 257}, {ID: 7, Data: 0, Fields: 2}} {
		c := slices.Clone(b)
		setWord(c, 8, h.ID)
		setWord(c, 24, uint64(h.Data))
		setWord(c, 32, uint64(h.Fields))
		binary.LittleEndian.PutUint32(c[48:], crc.Make().Sum(c[:48]))
		isBad(t, h, c)
	}
}

// The header is the one that the bytes begin with.
func TestOpenByTheHeader(t *testing.T) {
	s := at(1, 760)
	b := file(s)
	for _, h := range []head.Head{{Data: 4, Fields: 3}, {Data: 3, Fields: 2}, {Data: 256, Fields: 256}, {Data: 1, Fields: 1}} {
		c := slices.Clone(b)
		copy(c, h.Encode(crc.Make()))
		isBad(t, h, c)
	}
	h := head.Head{ID: math.MaxUint64, Key: 1, Data: 2, Fields: 4, Made: 5}
	copy(b, h.Encode(crc.Make()))
	m, _, _, e := Open(crc.Make(), b, 1000)
	if e != api.OK || m.Head() != h || !bytes.Equal(m.Bytes(), b) {
		t.Error(e, m.Head())
	}
}

func TestOpenOfNoSlot(t *testing.T) {
	isBad(t, "none", file())
	s := at(5, 760)
	for i := range 64 {
		b := file(s)
		b[128+i] ^= 1
		isBad(t, i, b)
		// The other one is there.
		older := at(4, 608)
		b = file(older, s)
		b[128+i] ^= 1
		isOpen(t, i, b, older, b[:608], nil)
	}
	wrong := file()
	copy(wrong[64:], slot.Slot{Turn: 1, Tail: 760, State: 3}.Encode(crc.Make()))
	isBad(t, "state", wrong)
}

func TestOpenOfTwoSlots(t *testing.T) {
	for _, c := range []struct{ even, odd uint64 }{{2, 1}, {2, 3}, {1 << 63, 1<<63 + 1}, {1 << 63, 1<<63 - 1}, {math.MaxUint64 - 1, math.MaxUint64}, {2, math.MaxUint64}} {
		first, second := at(c.even, 416), at(c.odd, 640)
		b := file(first, second)
		if c.even > c.odd {
			isOpen(t, c, b, first, b[:416], nil)
		} else {
			isOpen(t, c, b, second, b[:640], nil)
		}
	}
	// Of alike turns the first one.
	b := file()
	copy(b[64:], at(3, 416).Encode(crc.Make()))
	copy(b[128:], at(3, 640).Encode(crc.Make()))
	isOpen(t, "alike", b, at(3, 416), b[:416], nil)
	// The one that counts isn't right: the other one doesn't count.
	isBad(t, "later", file(at(2, 416), at(3, 648)))
	isBad(t, "later", file(at(4, 296), at(3, 640)))
}

func TestOpenAtEachTail(t *testing.T) {
	ends := []int{304, 368, 416, 480, 552, 608, 640, 704, 760}
	for tail := 0; tail < 1000; tail += 8 {
		s := at(2, uint64(tail))
		b := file(s)
		if slices.Contains(ends, tail) {
			isOpen(t, tail, b, s, b[:tail], nil)
		} else {
			isBad(t, tail, b)
		}
	}
	for _, tail := range []uint64{1 << 20, 1 << 32, 1<<32 | 304, 1 << 63, 1<<63 | 304, 1<<63 - 8, math.MaxUint64 - 7, math.MaxUint64 - 303} {
		isBad(t, tail, file(at(2, tail)))
	}
}

func TestOpenOfNoObjects(t *testing.T) {
	_, l := some()
	for i, x := range breaks {
		for n, bad := range l {
			for j, p := range l {
				s := at(1, uint64(p.end))
				b := file(s)
				x(b, bad.at)
				if j < n {
					isOpen(t, i, b, s, b[:p.end], nil)
				} else {
					isBad(t, i, b)
				}
			}
		}
	}
}

// The limit is the image's; bytes that are there may be more.
func TestOpenAtALimit(t *testing.T) {
	o := obj.Object{Kind: obj.Array, Words: []uint64{0}, Items: []uint64{1, 2}}
	for _, limit := range []int{math.MinInt, -1, 0, 1, 303, 607, 608, 647, 648, 649, 760, 1 << 20, math.MaxInt} {
		m, _, _, e := Open(crc.Make(), file(at(1, 608)), limit)
		if e != api.OK || m.Tail() != 608 {
			t.Fatal(limit, e)
		}
		place, e := m.Put(o)
		if limit >= 648 != (e == api.OK) || limit >= 648 != (place == 608) || limit < 648 && e != api.ErrFile {
			t.Error(limit, place, e)
		}
	}
}

func TestOpenKeepsNothing(t *testing.T) {
	b := file(at(1, 608))
	want := slices.Clone(b[:608])
	m := isOpen(t, "kept", b, at(1, 608), want, nil)
	clear(b)
	if !bytes.Equal(m.Bytes(), want) {
		t.Error("kept")
	}
	b = file(at(1, 608))
	before := slices.Clone(b)
	m = isOpen(t, "its own", b, at(1, 608), want, nil)
	if e := m.Set(192, 552); e != api.OK {
		t.Error(e)
	}
	if _, e := m.Put(obj.Object{Kind: obj.Array, Words: []uint64{9}, Items: []uint64{9}}); e != api.OK {
		t.Error(e)
	}
	if !bytes.Equal(b, before) {
		t.Error("changed")
	}
}

// Of no table nothing is asked for, but that it ends: its sums are noughts.
func TestOpenByNoTable(t *testing.T) {
	if m, _, _, e := Open(nil, file(at(1, 608)), 1000); m != nil || e != api.ErrBad {
		t.Error(e)
	}
}
