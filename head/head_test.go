package head

import (
	"bytes"
	"encoding/binary"
	"hash/crc32"
	"math"
	"math/rand"
	"slices"
	"testing"

	"logbook/crc"
)

// words are such as a header may have in its ID, its Key and its Made, which is any.
var words = []uint64{0, 1, 255, 256, 258, 1<<32 - 1, 1 << 32, 0x0807060504030201, 1<<63 - 1, 1 << 63, math.MaxUint64 - 1, math.MaxUint64}

// buckets are numbers of buckets that a table may have.
var buckets = []int{1, 2, 3, 4, 7, 8, 9, 16, 127, 128, 129, 254, 255, 256}

// noBuckets are numbers of buckets that no table may have; many of them would do, if not all of their bits counted.
var noBuckets = []int{math.MinInt, math.MinInt + 1, math.MinInt + 4, -1 << 32, -1<<32 + 1, -257, -256, -255, -4, -1, 0, 257, 258, 259, 260, 511, 512, 513, 1 << 16, 1<<16 | 4,
	1 << 31, 1<<31 | 4, 1 << 32, 1<<32 | 1, 1<<32 | 4, 1<<32 | 256, 1 << 61, 1<<61 | 1, 1<<62 | 4, math.MaxInt - 1, math.MaxInt}

// eachRight goes through headers that may be.
func eachRight(do func(Head)) {
	for i, data := range buckets {
		for j, fields := range buckets {
			n := i*len(buckets) + j
			do(Head{words[n%len(words)], words[n/2%len(words)], data, fields, words[n/3%len(words)]})
		}
	}
	for _, x := range words {
		do(Head{x, 0, 1, 1, 0})
		do(Head{0, x, 1, 1, 0})
		do(Head{0, 0, 1, 1, x})
		do(Head{x, x, 256, 256, x})
	}
}

// summed tells 48 bytes, their sum, and noughts, by the chapter's words alone.
func summed(front []byte) []byte {
	b := binary.LittleEndian.AppendUint32(slices.Clone(front), crc32.ChecksumIEEE(front))
	return append(b, make([]byte, 64-len(b))...)
}

// front tells what stands ahead of the sum.
func front(h Head) []byte {
	b := []byte{'L', 'O', 'G', 'B', 'O', 'O', 'K', '1'}
	for _, n := range []uint64{h.ID, h.Key, uint64(h.Data), uint64(h.Fields), h.Made} {
		b = binary.LittleEndian.AppendUint64(b, n)
	}
	return b
}

// laid tells the bytes that stand for a header.
func laid(h Head) []byte { return summed(front(h)) }

// P10.1

func TestNumbers(t *testing.T) {
	have := []int{Size, MostBuckets, Root}
	if want := []int{64, 256, 192}; !slices.Equal(have, want) || Magic != "LOGBOOK1" {
		t.Error(have, want, Magic)
	}
}

func TestRight(t *testing.T) {
	for data := -3; data < 600; data++ {
		for fields := -3; fields < 600; fields++ {
			want := data >= 1 && data <= 256 && fields >= 1 && fields <= 256
			if h := (Head{ID: 1, Key: 2, Data: data, Fields: fields, Made: 3}); h.Right() != want {
				t.Fatal(h, h.Right())
			}
		}
	}
	for _, n := range noBuckets {
		for _, m := range slices.Concat(buckets, noBuckets) {
			if (Head{Data: n, Fields: m}).Right() || (Head{Data: m, Fields: n}).Right() {
				t.Error(n, "and", m, "buckets")
			}
		}
	}
	if (Head{}).Right() || (Head{ID: 7, Key: 7, Made: 7}).Right() {
		t.Error("a header without buckets")
	}
}

// Which journal it is of, its key, and when it was made don't matter.
func TestRightByNothingElse(t *testing.T) {
	eachRight(func(h Head) {
		if !h.Right() {
			t.Error(h, "isn't right")
		}
		h.Fields = 257
		if h.Right() {
			t.Error(h, "is right")
		}
	})
}

func TestPlaces(t *testing.T) {
	for _, c := range []struct{ data, fields, table, objects int }{
		{1, 1, 264, 272}, {4, 2, 288, 304}, {2, 4, 272, 304}, {16, 4, 384, 416}, {1, 256, 264, 2312}, {256, 1, 2304, 2312}, {256, 256, 2304, 4352},
	} {
		h := Head{Data: c.data, Fields: c.fields}
		if h.DataTable() != 256 || h.FieldTable() != c.table || h.Objects() != c.objects {
			t.Error(h, h.DataTable(), h.FieldTable(), h.Objects())
		}
	}
	for data := 1; data <= 256; data++ {
		for fields := 1; fields <= 256; fields++ {
			h := Head{ID: 99, Key: 98, Data: data, Fields: fields, Made: 97}
			if h.DataTable() != 256 || h.FieldTable() != 256+8*data || h.Objects() != 256+8*data+8*fields {
				t.Fatal(h, h.DataTable(), h.FieldTable(), h.Objects())
			}
		}
	}
}

// The table of data begins behind the 64 bytes that the root begins, whatever the header is.
func TestDataTable(t *testing.T) {
	if n := (Head{}).DataTable(); n != 256 {
		t.Error(n)
	}
	for _, n := range noBuckets {
		if at := (Head{Data: n, Fields: n}).DataTable(); at != 256 {
			t.Error(n, at)
		}
	}
}

func TestSlot(t *testing.T) {
	for n := range 1000 {
		want := 64 + n%2*64
		if Slot(n) != want || Slot(-n) != want {
			t.Error(n, Slot(n), Slot(-n))
		}
	}
	for _, c := range [][2]int{{math.MinInt, 64}, {math.MinInt + 1, 128}, {math.MinInt + 2, 64}, {1 << 32, 64}, {1<<32 | 1, 128}, {math.MaxInt - 1, 64}, {math.MaxInt, 128}} {
		if at := Slot(c[0]); at != c[1] {
			t.Error(c[0], at)
		}
	}
}

// P10.2

func TestEncode(t *testing.T) {
	table := crc.Make()
	for _, c := range []struct {
		h    Head
		want []byte
	}{
		{Head{Data: 1, Fields: 1}, []byte{
			76, 79, 71, 66, 79, 79, 75, 49,
			0, 0, 0, 0, 0, 0, 0, 0, 0, 0, 0, 0, 0, 0, 0, 0,
			1, 0, 0, 0, 0, 0, 0, 0, 1, 0, 0, 0, 0, 0, 0, 0,
			0, 0, 0, 0, 0, 0, 0, 0,
			0x51, 0xcf, 0x9e, 0x08, 0, 0, 0, 0, 0, 0, 0, 0, 0, 0, 0, 0}},
		{Head{ID: 7, Key: 8, Data: 16, Fields: 4, Made: 9}, []byte{
			76, 79, 71, 66, 79, 79, 75, 49,
			7, 0, 0, 0, 0, 0, 0, 0, 8, 0, 0, 0, 0, 0, 0, 0,
			16, 0, 0, 0, 0, 0, 0, 0, 4, 0, 0, 0, 0, 0, 0, 0,
			9, 0, 0, 0, 0, 0, 0, 0,
			0x75, 0xd4, 0xef, 0x8a, 0, 0, 0, 0, 0, 0, 0, 0, 0, 0, 0, 0}},
		{Head{0x0807060504030201, 0x1817161514131211, 256, 255, 0x2827262524232221}, []byte{
			76, 79, 71, 66, 79, 79, 75, 49,
			1, 2, 3, 4, 5, 6, 7, 8, 17, 18, 19, 20, 21, 22, 23, 24,
			0, 1, 0, 0, 0, 0, 0, 0, 255, 0, 0, 0, 0, 0, 0, 0,
			33, 34, 35, 36, 37, 38, 39, 40,
			0x70, 0x4b, 0x3e, 0xcc, 0, 0, 0, 0, 0, 0, 0, 0, 0, 0, 0, 0}},
		{Head{math.MaxUint64, math.MaxUint64, 256, 256, math.MaxUint64}, []byte{
			76, 79, 71, 66, 79, 79, 75, 49,
			255, 255, 255, 255, 255, 255, 255, 255, 255, 255, 255, 255, 255, 255, 255, 255,
			0, 1, 0, 0, 0, 0, 0, 0, 0, 1, 0, 0, 0, 0, 0, 0,
			255, 255, 255, 255, 255, 255, 255, 255,
			0x8e, 0xa7, 0x1d, 0x5b, 0, 0, 0, 0, 0, 0, 0, 0, 0, 0, 0, 0}},
	} {
		if b := c.h.Encode(table); !bytes.Equal(b, c.want) {
			t.Error(c.h, b)
		}
	}
	eachRight(func(h Head) {
		if b := h.Encode(table); !bytes.Equal(b, laid(h)) {
			t.Error(h, b)
		}
	})
}

func TestEncodeOfWhatIsNotRight(t *testing.T) {
	table := crc.Make()
	for _, n := range noBuckets {
		for _, h := range []Head{{}, {Data: n}, {Fields: n}, {Data: n, Fields: n}, {Data: n, Fields: 1}, {Data: 1, Fields: n}, {7, 8, n, 256, 9}, {7, 8, 256, n, 9}} {
			if b := h.Encode(table); len(b) != 0 {
				t.Error(h, b)
			}
		}
	}
}

func TestDecode(t *testing.T) {
	table := crc.Make()
	eachRight(func(h Head) {
		for _, behind := range [][]byte{nil, {0}, {255}, make([]byte, 64), bytes.Repeat([]byte{7}, 300), laid(Head{Data: 1, Fields: 1})} {
			if g, ok := Decode(table, append(laid(h), behind...)); !ok || g != h {
				t.Error(h, "with", len(behind), "bytes behind it:", g, ok)
			}
		}
	})
}

// none looks that bytes begin with no header.
func none(t *testing.T, what string, table *crc.Table, b []byte) {
	t.Helper()
	if h, ok := Decode(table, b); ok || h != (Head{}) {
		t.Error(what, b, h, ok)
	}
}

func TestDecodeWhatIsNotWhole(t *testing.T) {
	table := crc.Make()
	none(t, "nothing", table, nil)
	eachRight(func(h Head) {
		b := laid(h)
		for n := range b {
			none(t, "cut", table, b[:n])
			none(t, "cut, with no room", table, bytes.Clone(b[:n]))
		}
	})
}

// It is looked for at the begin alone.
func TestDecodeWhatStandsElsewhere(t *testing.T) {
	table := crc.Make()
	b := laid(Head{ID: 7, Key: 8, Data: 16, Fields: 4, Made: 9})
	for n := 1; n <= 128; n++ {
		none(t, "behind noughts", table, append(make([]byte, n), b...))
	}
	for n := 1; n < 64; n++ {
		none(t, "its rest", table, append(bytes.Clone(b[n:]), make([]byte, 64)...))
	}
}

func TestDecodeWhatIsChanged(t *testing.T) {
	table := crc.Make()
	for _, h := range []Head{{Data: 1, Fields: 1}, {7, 8, 16, 4, 9}, {math.MaxUint64, math.MaxUint64, 256, 256, math.MaxUint64}} {
		b := append(laid(h), laid(h)...)
		for i := range 64 {
			was := b[i]
			for x := range 256 {
				b[i] = byte(x)
				if byte(x) != was {
					none(t, "changed", table, b)
				}
			}
			b[i] = was
		}
	}
}

// Bytes whose sum is right have a header just if all else is, too.
func TestDecodeWhatIsSummedAnew(t *testing.T) {
	table := crc.Make()
	f := front(Head{ID: 7, Key: 8, Data: 16, Fields: 4, Made: 9})
	for i := range Magic {
		for x := range 256 {
			g := bytes.Clone(f)
			g[i] = byte(x)
			if byte(x) != f[i] {
				none(t, "another begin", table, summed(g))
			}
		}
	}
	for i := 52; i < 64; i++ {
		for _, x := range []byte{1, 0x80, 0xff} {
			b := summed(f)
			b[i] = x
			none(t, "no noughts", table, b)
		}
	}
	none(t, "no begin", table, summed(f[8:]))
	none(t, "a word too few", table, summed(f[:40]))
	none(t, "a word too many", table, summed(append(bytes.Clone(f), make([]byte, 8)...)))
	none(t, "noughts", table, make([]byte, 64))
	none(t, "summed noughts", table, summed(make([]byte, 48)))
}

// The sum is of what stands ahead of it, no more and no less, the least byte first.
func TestDecodeByAnotherSum(t *testing.T) {
	table := crc.Make()
	b := laid(Head{ID: 7, Key: 8, Data: 16, Fields: 4, Made: 9})
	for _, sum := range []uint32{0, math.MaxUint32, ^crc32.ChecksumIEEE(b[:48]), crc32.ChecksumIEEE(b[8:48]), crc32.ChecksumIEEE(b[:40]), crc32.ChecksumIEEE(append(bytes.Clone(b[:48]), make([]byte, 16)...))} {
		other := bytes.Clone(b)
		binary.LittleEndian.PutUint32(other[48:], sum)
		none(t, "another sum", table, other)
	}
	other := bytes.Clone(b)
	slices.Reverse(other[48:52])
	none(t, "its sum the other way round", table, other)
}

func TestDecodeOfNoBuckets(t *testing.T) {
	table := crc.Make()
	for _, n := range noBuckets {
		none(t, "no right data", table, laid(Head{7, 8, n, 4, 9}))
		none(t, "no right fields", table, laid(Head{7, 8, 16, n, 9}))
		none(t, "nothing right", table, laid(Head{7, 8, n, n, 9}))
	}
	for i := range 64 {
		for _, h := range []Head{{7, 8, 4 ^ 1<<i, 4, 9}, {7, 8, 4, 4 ^ 1<<i, 9}} {
			if g, ok := Decode(table, laid(h)); ok != (i != 2 && i <= 7) || ok && g != h {
				t.Error("bit", i, h, g, ok)
			}
		}
	}
}

// P10.3

func TestWhatIsEncodedIsDecoded(t *testing.T) {
	table := crc.Make()
	eachRight(func(h Head) {
		if g, ok := Decode(table, h.Encode(table)); !ok || g != h {
			t.Error(h, g, ok)
		}
	})
	for data := 1; data <= 256; data++ {
		for fields := 1; fields <= 256; fields += 5 {
			h := Head{ID: uint64(fields), Key: uint64(data), Data: data, Fields: fields, Made: uint64(data * fields)}
			if g, ok := Decode(table, h.Encode(table)); !ok || g != h {
				t.Fatal(h, g, ok)
			}
		}
	}
}

func TestWhatIsEncodedIsDecodedByChance(t *testing.T) {
	table := crc.Make()
	r := rand.New(rand.NewSource(10))
	for range 20000 {
		h := Head{r.Uint64(), r.Uint64(), r.Intn(300) - 20, r.Intn(300) - 20, r.Uint64()}
		b := h.Encode(table)
		g, ok := Decode(table, b)
		if right := h.Right(); ok != right || right && (g != h || len(b) != 64) || !right && (g != (Head{}) || len(b) != 0) {
			t.Fatal(h, b, g, ok)
		}
	}
}

// isAsItStood looks that what is decoded is encoded as it stood there.
func isAsItStood(t *testing.T, b []byte) {
	t.Helper()
	table := crc.Make()
	h, ok := Decode(table, b)
	if !ok {
		none(t, "none", table, b)
	} else if !h.Right() || !bytes.Equal(h.Encode(table), b[:64]) {
		t.Fatal(b, h)
	}
}

func FuzzDecode(f *testing.F) {
	eachRight(func(h Head) { f.Add(laid(h)) })
	f.Fuzz(func(t *testing.T, b []byte) {
		isAsItStood(t, b)
		if len(b) >= 48 {
			isAsItStood(t, summed(b[:48]))
		}
	})
}

// What is handed in is neither changed nor kept, and what is told is new.

func TestEncodeTellsWhatIsNew(t *testing.T) {
	table := crc.Make()
	h := Head{ID: 7, Key: 8, Data: 16, Fields: 4, Made: 9}
	b := h.Encode(table)
	clear(b[:cap(b)])
	if !bytes.Equal(h.Encode(table), laid(h)) || *table != *crc.Make() {
		t.Error("what was told is kept:", h.Encode(table))
	}
}

func TestDecodeLeavesWhatIsHandedIn(t *testing.T) {
	table := crc.Make()
	h := Head{ID: 7, Key: 8, Data: 16, Fields: 4, Made: 9}
	room := append(laid(h), 1, 2, 3, 4, 5)
	for _, n := range []int{63, 64, 65, len(room)} {
		g, ok := Decode(table, room[:n])
		if ok != (n >= 64) || ok && g != h || !bytes.Equal(room, append(laid(h), 1, 2, 3, 4, 5)) || *table != *crc.Make() {
			t.Error(n, room, g, ok)
		}
	}
}

// A sum by no table is 0; nothing more is asked of it than that it doesn't panic.
func TestNoTable(t *testing.T) {
	h := Head{ID: 7, Key: 8, Data: 16, Fields: 4, Made: 9}
	if b := h.Encode(nil); len(b) != 64 || !bytes.Equal(b[:48], front(h)) {
		t.Error(b)
	}
	none(t, "by no table", nil, laid(h))
}

// The example of the document.

func TestExample(t *testing.T) {
	h := Head{Data: 4, Fields: 2}
	if h.FieldTable() != 288 || h.Objects() != 304 {
		t.Error(h.FieldTable(), h.Objects())
	}
}
