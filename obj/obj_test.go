package obj

import (
	"bytes"
	"encoding/binary"
	"math"
	"math/rand"
	"slices"
	"testing"
)

var kinds = []int{Data, Field, Entry, Array}

// noKinds are numbers of which there is no kind.
var noKinds = []int{math.MinInt, -1 << 32, -5, -4, -3, -2, -1, 0, 5, 6, 7, 8, 255, 256, 257, 1<<8 | 2, 1 << 16, 1<<32 | 1, 1<<32 | 4, math.MaxInt}

// parts are what the document says of each kind.
var parts = map[int]struct {
	words, most int
	items       bool
}{
	Data:  {5, 1024, false},
	Field: {3, 64, false},
	Entry: {5, 64, true},
	Array: {1, 1024, true},
}

func numbers(n int) []uint64 {
	l := make([]uint64, n)
	for i := range l {
		l[i] = 0xf1e2d3c4b5a69788 * uint64(i+1)
	}
	return l
}

func text(n int) []byte {
	b := make([]byte, n)
	for i := range b {
		b[i] = byte(0xff - i)
	}
	return b
}

// object makes one that has n bytes, or numbers, as its kind has.
func object(kind, n int) Object {
	o := Object{Kind: kind, Words: numbers(parts[kind].words)}
	if parts[kind].items {
		o.Items = numbers(n)
	} else {
		o.Raw = text(n)
	}
	return o
}

// counts are the edges of how many bytes or numbers a kind has.
func counts(kind int) []int {
	most := parts[kind].most
	return []int{1, 2, 3, 4, 5, 6, 7, 8, 9, 15, 16, 17, most - 1, most}
}

// eachRight goes through objects that may be.
func eachRight(do func(Object)) {
	for _, kind := range kinds {
		for _, n := range counts(kind) {
			do(object(kind, n))
		}
	}
}

// laid tells the bytes that stand for an object, by the document's words alone.
func laid(o Object) []byte {
	rest := slices.Clone(o.Raw)
	for _, n := range o.Items {
		rest = binary.LittleEndian.AppendUint64(rest, n)
	}
	b := binary.LittleEndian.AppendUint64(nil, uint64(o.Kind))
	b = binary.LittleEndian.AppendUint64(b, uint64(16+8*len(o.Words)+len(rest)))
	for _, n := range o.Words {
		b = binary.LittleEndian.AppendUint64(b, n)
	}
	b = append(b, rest...)
	for len(b)%8 != 0 {
		b = append(b, 0)
	}
	return b
}

// P9.1

func TestNumbersOfKindsAndWords(t *testing.T) {
	have := []int{Data, Field, Entry, Array, Hash, Next, Sibling, First, Chain, Head, Seq, Real, Mono, Boot, Xor, More, MostItems}
	if want := []int{1, 2, 3, 4, 0, 1, 2, 3, 4, 2, 0, 1, 2, 3, 4, 0, 1024}; !slices.Equal(have, want) {
		t.Error(have, want)
	}
}

func TestWordsAndFront(t *testing.T) {
	for _, c := range [][3]int{{Data, 5, 56}, {Field, 3, 40}, {Entry, 5, 56}, {Array, 1, 24}} {
		if w, f := Words(c[0]), Front(c[0]); w != c[1] || f != c[2] {
			t.Error("kind", c[0], w, f)
		}
	}
	for _, kind := range noKinds {
		if w, f := Words(kind), Front(kind); w != 0 || f != 16 {
			t.Error("kind", kind, w, f)
		}
	}
}

func TestAt(t *testing.T) {
	for word, want := range []int{16, 24, 32, 40, 48, 56} {
		if at := At(word); at != want {
			t.Error("At", word, at)
		}
	}
	for _, word := range []int{1000, 1<<20 - 1, 1 << 20} {
		if at := At(word); at != 16+8*word {
			t.Error("At", word, at)
		}
	}
}

func TestItemAt(t *testing.T) {
	for _, i := range []int{0, 1, 2, 3, 63, 64, 1023, 1024, 1<<20 - 1, 1 << 20} {
		for _, kind := range kinds {
			if at := ItemAt(kind, i); at != 16+8*parts[kind].words+8*i {
				t.Error("ItemAt", kind, i, at)
			}
		}
		for _, kind := range noKinds {
			if at := ItemAt(kind, i); at != 16+8*i {
				t.Error("ItemAt", kind, i, at)
			}
		}
	}
}

// The places that are told are those where Encode puts what there is.
func TestPlacesAreThoseOfEncode(t *testing.T) {
	eachRight(func(o Object) {
		b := Encode(o)
		for i, n := range o.Words {
			if got := binary.LittleEndian.Uint64(b[At(i):]); got != n {
				t.Errorf("kind %d, word %d: %x", o.Kind, i, got)
			}
		}
		for i, n := range o.Items {
			if got := binary.LittleEndian.Uint64(b[ItemAt(o.Kind, i):]); got != n {
				t.Errorf("kind %d, number %d: %x", o.Kind, i, got)
			}
		}
		if !bytes.HasPrefix(b[Front(o.Kind):], o.Raw) {
			t.Error("kind", o.Kind, "has other bytes behind its front")
		}
	})
}

// P9.2

func TestRightByHowMany(t *testing.T) {
	for _, kind := range kinds {
		for n := range 2100 {
			want := 1 <= n && n <= parts[kind].most
			if o := object(kind, n); Right(o) != want {
				t.Error("kind", kind, "of", n, Right(o))
			}
		}
	}
}

func TestRightByItsWords(t *testing.T) {
	for _, kind := range kinds {
		for n := range 10 {
			o := object(kind, 8)
			o.Words = numbers(n)
			if want := n == parts[kind].words; Right(o) != want {
				t.Error("kind", kind, "of", n, "words", Right(o))
			}
		}
	}
}

func TestRightHasBytesOrNumbers(t *testing.T) {
	for _, kind := range kinds {
		for raw := range 3 {
			for items := range 3 {
				o := Object{Kind: kind, Words: numbers(parts[kind].words), Raw: text(raw), Items: numbers(items)}
				want := raw > 0 && items == 0
				if parts[kind].items {
					want = items > 0 && raw == 0
				}
				if Right(o) != want {
					t.Error("kind", kind, "of", raw, "bytes and", items, "numbers:", Right(o))
				}
			}
		}
	}
}

func TestRightByItsKind(t *testing.T) {
	if Right(Object{}) {
		t.Error("nothing is right")
	}
	for _, kind := range noKinds {
		for words := range 7 {
			for _, o := range []Object{
				{}, {Raw: text(1)}, {Items: numbers(1)}, {Raw: text(8), Items: numbers(1)},
			} {
				o.Kind, o.Words = kind, numbers(words)
				if Right(o) || len(Encode(o)) != 0 {
					t.Error("kind", kind, "of", words, "words is right")
				}
			}
		}
	}
}

// Which bytes, words and numbers there are doesn't matter.
func TestRightByNothingElse(t *testing.T) {
	for _, o := range []Object{
		{Kind: Data, Words: make([]uint64, 5), Raw: []byte{0}},
		{Kind: Data, Words: slices.Repeat([]uint64{math.MaxUint64}, 5), Raw: []byte("=")},
		{Kind: Field, Words: make([]uint64, 3), Raw: []byte{0}},
		{Kind: Field, Words: make([]uint64, 3), Raw: []byte("a=\xff")},
		{Kind: Entry, Words: make([]uint64, 5), Items: []uint64{0}},
		{Kind: Entry, Words: make([]uint64, 5), Items: []uint64{7, 7, 1, math.MaxUint64}},
		{Kind: Array, Words: []uint64{3}, Items: []uint64{0, 0, 1}},
	} {
		if !Right(o) {
			t.Error(o, "isn't right")
		}
		if b := Encode(o); !bytes.Equal(b, laid(o)) {
			t.Error(o, b)
		}
	}
}

func TestNilAndEmptyAreAlike(t *testing.T) {
	raw := Object{Kind: Data, Words: numbers(5), Raw: []byte("A=1"), Items: []uint64{}}
	items := Object{Kind: Array, Words: numbers(1), Raw: []byte{}, Items: []uint64{1}}
	for _, o := range []Object{raw, items} {
		p := o
		if len(p.Raw) == 0 {
			p.Raw = nil
		} else {
			p.Items = nil
		}
		if !Right(o) || !Right(p) || !Same(o, p) || !Same(p, o) || Size(o) != Size(p) || !bytes.Equal(Encode(o), Encode(p)) {
			t.Error(o, p)
		}
	}
	if !Same(Object{}, Object{Words: []uint64{}, Raw: []byte{}, Items: []uint64{}}) {
		t.Error("nothing, and nothing")
	}
}

func TestSize(t *testing.T) {
	for _, c := range []struct{ kind, n, want int }{
		{Data, 1, 64}, {Data, 7, 64}, {Data, 8, 64}, {Data, 9, 72}, {Data, 1023, 1080}, {Data, 1024, 1080},
		{Field, 1, 48}, {Field, 8, 48}, {Field, 9, 56}, {Field, 63, 104}, {Field, 64, 104},
		{Entry, 1, 64}, {Entry, 2, 72}, {Entry, 64, 568},
		{Array, 1, 32}, {Array, 2, 40}, {Array, 1024, 8216},
	} {
		if n := Size(object(c.kind, c.n)); n != c.want {
			t.Error("kind", c.kind, "of", c.n, "takes", n)
		}
	}
	eachRight(func(o Object) {
		if n := Size(o); n != len(Encode(o)) || n != len(laid(o)) {
			t.Error("kind", o.Kind, n)
		}
	})
}

func TestSame(t *testing.T) {
	objects := []Object{{}, {Kind: 1}, {Kind: -1}, {Words: []uint64{0}}, {Words: []uint64{1}}, {Raw: []byte{0}}, {Items: []uint64{0}},
		{Words: []uint64{0, 0}}, {Raw: []byte{0, 0}}, {Raw: []byte{0, 1}}, {Items: []uint64{0, 0}}, {Items: []uint64{0, 1}},
		{Kind: Data, Raw: []byte{0}, Items: []uint64{0}}}
	eachRight(func(o Object) {
		objects = append(objects, o)
		for i := range o.Words {
			p := o
			p.Words = slices.Clone(o.Words)
			p.Words[i] ^= 1 << 63
			objects = append(objects, p)
		}
	})
	for i, a := range objects {
		for j, b := range objects {
			b = Object{b.Kind, slices.Clone(b.Words), slices.Clone(b.Raw), slices.Clone(b.Items)}
			if Same(a, b) != (i == j) {
				t.Error(i, j, Same(a, b))
			}
		}
	}
}

func TestSameByTheLast(t *testing.T) {
	for _, kind := range kinds {
		for _, n := range counts(kind) {
			a, b := object(kind, n), object(kind, n)
			if !Same(a, b) {
				t.Error("kind", kind, "of", n)
			}
			if parts[kind].items {
				b.Items[n-1]++
			} else {
				b.Raw[n-1]++
			}
			if Same(a, b) || Same(b, a) {
				t.Error("kind", kind, "of", n, "with another last one")
			}
		}
	}
}

// P9.3

func TestEncode(t *testing.T) {
	for _, c := range []struct {
		o    Object
		want []byte
	}{
		{Object{Kind: Data, Words: []uint64{1, 2, 3, 4, 0x0807060504030201}, Raw: []byte("A=1")}, []byte{
			1, 0, 0, 0, 0, 0, 0, 0, 59, 0, 0, 0, 0, 0, 0, 0,
			1, 0, 0, 0, 0, 0, 0, 0, 2, 0, 0, 0, 0, 0, 0, 0, 3, 0, 0, 0, 0, 0, 0, 0, 4, 0, 0, 0, 0, 0, 0, 0, 1, 2, 3, 4, 5, 6, 7, 8,
			'A', '=', '1', 0, 0, 0, 0, 0}},
		{Object{Kind: Field, Words: []uint64{1, 2, 3}, Raw: []byte("ABCDEFGH")}, []byte{
			2, 0, 0, 0, 0, 0, 0, 0, 48, 0, 0, 0, 0, 0, 0, 0,
			1, 0, 0, 0, 0, 0, 0, 0, 2, 0, 0, 0, 0, 0, 0, 0, 3, 0, 0, 0, 0, 0, 0, 0,
			'A', 'B', 'C', 'D', 'E', 'F', 'G', 'H'}},
		{Object{Kind: Entry, Words: []uint64{1, 2, 3, 4, 5}, Items: []uint64{258}}, []byte{
			3, 0, 0, 0, 0, 0, 0, 0, 64, 0, 0, 0, 0, 0, 0, 0,
			1, 0, 0, 0, 0, 0, 0, 0, 2, 0, 0, 0, 0, 0, 0, 0, 3, 0, 0, 0, 0, 0, 0, 0, 4, 0, 0, 0, 0, 0, 0, 0, 5, 0, 0, 0, 0, 0, 0, 0,
			2, 1, 0, 0, 0, 0, 0, 0}},
		{Object{Kind: Array, Words: []uint64{9}, Items: []uint64{7, 0}}, []byte{
			4, 0, 0, 0, 0, 0, 0, 0, 40, 0, 0, 0, 0, 0, 0, 0,
			9, 0, 0, 0, 0, 0, 0, 0,
			7, 0, 0, 0, 0, 0, 0, 0, 0, 0, 0, 0, 0, 0, 0, 0}},
	} {
		if b := Encode(c.o); !bytes.Equal(b, c.want) {
			t.Error(c.o, b)
		}
	}
	eachRight(func(o Object) {
		if b := Encode(o); !bytes.Equal(b, laid(o)) {
			t.Error(o, b)
		}
	})
}

func TestEncodeOfWhatIsNotRight(t *testing.T) {
	l := []Object{{}, {Kind: Data}, {Kind: Array, Words: []uint64{1}}, {Kind: 5, Words: []uint64{1}, Items: []uint64{1}}}
	for _, kind := range kinds {
		l = append(l, object(kind, 0), object(kind, parts[kind].most+1))
		for _, words := range []int{parts[kind].words - 1, parts[kind].words + 1} {
			o := object(kind, 1)
			o.Words = numbers(words)
			l = append(l, o)
		}
		both := object(kind, 1)
		both.Raw, both.Items = text(1), numbers(1)
		other := both
		if parts[kind].items {
			other.Items = nil
		} else {
			other.Raw = nil
		}
		l = append(l, both, other)
	}
	for _, o := range l {
		if b := Encode(o); len(b) != 0 {
			t.Error(o, b)
		}
	}
}

// none looks that no object is told at a place.
func none(t *testing.T, what string, b []byte, at int) {
	t.Helper()
	if o, n, ok := Decode(b, at); ok || n != 0 || !Same(o, Object{}) {
		t.Error(what, "at", at, "of", len(b), "bytes:", o, n, ok)
	}
}

func TestDecode(t *testing.T) {
	eachRight(func(o Object) {
		b := laid(o)
		for _, ahead := range []int{0, 8, 16, 1024} {
			for _, behind := range []int{0, 1, 7, 8, 100} {
				all := slices.Concat(bytes.Repeat([]byte{5}, ahead), b, bytes.Repeat([]byte{6}, behind))
				p, n, ok := Decode(all, ahead)
				if !ok || n != ahead+len(b) || !Same(o, p) {
					t.Fatal(o, "at", ahead, p, n, ok)
				}
			}
		}
	})
}

func TestDecodeWhereThereIsNoPlace(t *testing.T) {
	none(t, "nothing", nil, 0)
	none(t, "nothing", []byte{}, 0)
	o := object(Data, 3)
	// The object stands at each place that is looked at, if that is a place.
	for at := range 40 {
		b := append(bytes.Repeat([]byte{0}, at), laid(o)...)
		if at%8 != 0 {
			none(t, "no multiple of 8", b, at)
		} else if p, n, ok := Decode(b, at); !ok || n != len(b) || !Same(o, p) {
			t.Error("at", at, p, n, ok)
		}
	}
	b := laid(o)
	for _, at := range []int{math.MinInt, math.MinInt + 8, -64, -16, -8, -7, -1, len(b) - 8, len(b), len(b) + 8, 1 << 40, math.MaxInt - 15, math.MaxInt - 7, math.MaxInt} {
		none(t, "no place", b, at)
	}
}

func TestDecodeWhatIsNotWhole(t *testing.T) {
	eachRight(func(o Object) {
		b := laid(o)
		for size := range b {
			none(t, "cut", b[:size], 0)
			none(t, "cut, behind another", slices.Concat(b, b[:size]), len(b))
		}
	})
}

func TestDecodeWhatIsFilledOtherwise(t *testing.T) {
	for _, kind := range []int{Data, Field} {
		for n := 1; n <= 17; n++ {
			o := object(kind, n)
			b := laid(o)
			for i := Front(kind) + n; i < len(b); i++ {
				for _, x := range []byte{1, 0x80, 0xff} {
					bad := bytes.Clone(b)
					bad[i] = x
					none(t, "filled with no nought", bad, 0)
				}
			}
		}
	}
}

// sizes are numbers that may stand as an object's size, among them such as wrap round.
func sizes() []uint64 {
	var l []uint64
	for n := range uint64(10000) {
		l = append(l, n, -n, 1<<63+n, 1<<63-n, 1<<32+n)
	}
	return l
}

// With another size that would do for its kind, it is another object; with any other there is none.
func TestDecodeByItsSize(t *testing.T) {
	for _, kind := range kinds {
		width, front := 1, 16+8*parts[kind].words
		if parts[kind].items {
			width = 8
		}
		least, most := uint64(front+width), uint64(front+width*parts[kind].most)
		b := append(laid(object(kind, 1))[:front], make([]byte, 10000)...)
		for _, n := range sizes() {
			binary.LittleEndian.PutUint64(b[8:], n)
			if n < least || n > most || (n-least)%uint64(width) != 0 {
				none(t, "a size that may not be", b, 0)
				continue
			}
			o, end, ok := Decode(b, 0)
			if !ok || end != (int(n)+7)/8*8 || len(o.Raw)+8*len(o.Items) != int(n)-front || !Right(o) {
				t.Fatal("kind", kind, "of size", n, end, ok)
			}
		}
	}
}

func TestDecodeByItsKind(t *testing.T) {
	for _, kind := range kinds {
		b := laid(object(kind, 8))
		for _, other := range noKinds {
			binary.LittleEndian.PutUint64(b, uint64(other))
			none(t, "no kind", b, 0)
		}
		for i := range 64 {
			binary.LittleEndian.PutUint64(b, uint64(kind)|1<<i)
			if o, _, ok := Decode(b, 0); ok && (i > 2 || o.Kind != kind|1<<i) {
				t.Error("kind", kind, "with bit", i, o)
			}
		}
	}
}

func TestDecodeOfBytesThatAreNoObjects(t *testing.T) {
	for _, x := range []byte{0, 1, 2, 3, 4, 0xff} {
		b := bytes.Repeat([]byte{x}, 2000)
		for at := -8; at < len(b)+9; at++ {
			none(t, "bytes", b, at)
		}
	}
}

// P9.4

func TestWhatIsEncodedIsDecoded(t *testing.T) {
	var b []byte
	var l []Object
	eachRight(func(o Object) {
		b = append(b, Encode(o)...)
		l = append(l, o)
	})
	at := 0
	for _, o := range l {
		p, n, ok := Decode(b, at)
		if !ok || !Same(o, p) || n != at+Size(o) {
			t.Fatal(o, p, at, n, ok)
		}
		at = n
	}
	none(t, "behind the last one", b, at)
}

// isAsItStood looks that what is decoded is right, and encoded as it stood there; it tells whether something was.
func isAsItStood(t *testing.T, b []byte, at int) bool {
	t.Helper()
	o, n, ok := Decode(b, at)
	if !ok {
		none(t, "none", b, at)
		return false
	}
	if !Right(o) || n != at+Size(o) || n > len(b) || !bytes.Equal(Encode(o), b[at:n]) {
		t.Fatal("at", at, "of", b, o, n)
	}
	return true
}

func TestWhatIsDecodedIsEncodedAsItStood(t *testing.T) {
	for _, kind := range kinds {
		for n := 1; n <= 9; n++ {
			b := append(laid(object(kind, n)), make([]byte, 64)...)
			for i := range b {
				was := b[i]
				for x := range 256 {
					b[i] = byte(x)
					isAsItStood(t, b, 0)
				}
				b[i] = was
			}
		}
	}
}

func TestWhatIsDecodedIsEncodedAsItStoodByChance(t *testing.T) {
	r := rand.New(rand.NewSource(9))
	there := 0
	for range 100000 {
		b := make([]byte, 8*r.Intn(30)+r.Intn(8))
		r.Read(b)
		at := 8 * r.Intn(3)
		if len(b) > at+16 {
			// Whole random bytes are never an object: its kind and its size are about right.
			copy(b[at:], laid(Object{Kind: r.Intn(6)})[:8])
			binary.LittleEndian.PutUint64(b[at+8:], uint64(r.Intn(len(b))))
			clear(b[len(b)-r.Intn(8):])
		}
		if isAsItStood(t, b, at) {
			there++
		}
	}
	if there < 1000 {
		t.Error("just", there, "objects")
	}
}

func FuzzDecode(f *testing.F) {
	eachRight(func(o Object) { f.Add(laid(o), 0) })
	f.Fuzz(func(t *testing.T, b []byte, at int) { isAsItStood(t, b, at) })
}

// What is handed in is neither changed nor kept, and what is told is new.

// roomy tells an object like another one, in lists that have spare room.
func roomy(o Object) Object {
	return Object{o.Kind, append(make([]uint64, 0, 2000), o.Words...), append(make([]byte, 0, 2000), o.Raw...), append(make([]uint64, 0, 2000), o.Items...)}
}

// spoil changes all that an object's lists have, their spare room included.
func spoil(o Object) {
	for _, l := range [][]uint64{o.Words[:cap(o.Words)], o.Items[:cap(o.Items)]} {
		for i := range l {
			l[i] = 0xee
		}
	}
	for i := range o.Raw[:cap(o.Raw)] {
		o.Raw[:cap(o.Raw)][i] = 0xee
	}
}

func isClear(o Object) bool {
	for _, l := range [][]uint64{o.Words[len(o.Words):cap(o.Words)], o.Items[len(o.Items):cap(o.Items)]} {
		if !slices.Equal(l, make([]uint64, len(l))) {
			return false
		}
	}
	l := o.Raw[len(o.Raw):cap(o.Raw)]
	return bytes.Equal(l, make([]byte, len(l)))
}

func TestEncodeKeepsNothing(t *testing.T) {
	eachRight(func(o Object) {
		p := roomy(o)
		b := Encode(p)
		if !Right(p) || Size(p) != len(b) || !Same(p, o) || !isClear(p) {
			t.Error("what was handed in is changed:", p)
		}
		spoil(p)
		if !bytes.Equal(b, laid(o)) {
			t.Error("what was handed in is kept:", b)
		}
	})
}

func TestDecodeKeepsNothing(t *testing.T) {
	eachRight(func(o Object) {
		b := append(laid(o), 1, 2, 3, 4, 5, 6, 7, 8)
		p, _, _ := Decode(b, 0)
		q, _, _ := Decode(b, 0)
		spoil(q)
		if !bytes.Equal(b, append(laid(o), 1, 2, 3, 4, 5, 6, 7, 8)) {
			t.Error("what was handed in is changed:", b)
		}
		clear(b)
		if !Same(o, p) {
			t.Error("what was handed in is kept:", p)
		}
	})
}

func TestListsOfAnAnswerShareNothing(t *testing.T) {
	eachRight(func(o Object) {
		p, _, _ := Decode(laid(o), 0)
		_ = append(p.Words, 0xee, 0xee)
		if !Same(o, p) {
			t.Error("more words change", p)
		}
	})
}

// The example of the document.

func TestExample(t *testing.T) {
	if n := len(Encode(Object{Kind: Array, Words: []uint64{0}, Items: []uint64{1, 2}})); n != 40 {
		t.Error("an array of two items has", n, "bytes")
	}
}
