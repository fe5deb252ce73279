package scan

import (
	"bytes"
	"encoding/binary"
	"math"
	"math/rand"
	"slices"
	"strconv"
	"strings"
	"testing"

	"logbook/api"
	"logbook/crc"
	"logbook/entry"
	"logbook/head"
	"logbook/image"
	"logbook/obj"
)

// found is an object, with its place and the one behind it.
type found struct {
	at, end int
	o       obj.Object
}

func word(b []byte, at int) uint64 { return binary.LittleEndian.Uint64(b[at:]) }

func words(b []byte) []uint64 {
	var l []uint64
	for at := 0; at < len(b); at += 8 {
		l = append(l, word(b, at))
	}
	return l
}

// slowAt is the object at a place, by the document's words alone: whatever may be there is encoded, and held against the bytes.
func slowAt(b []byte, at int) (found, bool) {
	if at < 0 || at%8 != 0 || at > len(b) || at+16 > len(b) {
		return found{}, false
	}
	fronts := map[uint64]int{1: 56, 2: 40, 3: 56, 4: 24}
	kind, size := word(b, at), word(b, at+8)
	front, is := fronts[kind]
	if !is || size <= uint64(front) || size > uint64(len(b)-at) {
		return found{}, false
	}
	x := found{at: at, end: at + int(size+7)/8*8, o: obj.Object{Kind: int(kind), Words: words(b[at+16 : at+front])}}
	rest := b[at+front : at+int(size)]
	if kind <= 2 {
		x.o.Raw = slices.Clone(rest)
	} else if len(rest)%8 != 0 {
		return found{}, false
	} else {
		x.o.Items = words(rest)
	}
	if x.end > len(b) || !obj.Right(x.o) || !bytes.Equal(obj.Encode(x.o), b[at:x.end]) {
		return found{}, false
	}
	return x, true
}

func slowAll(b []byte, from, to int) []found {
	var l []found
	for at := from; at < to; {
		x, ok := slowAt(b, at)
		if !ok || x.end > to {
			return l
		}
		l = append(l, x)
		at = x.end
	}
	return l
}

func slowWhole(b []byte, from, to int) bool {
	if from < 0 || to > len(b) || from > to {
		return false
	}
	l := slowAll(b, from, to)
	if len(l) == 0 {
		return from == to
	}
	return l[len(l)-1].end == to
}

func slowItems(b []byte, from, at int, o obj.Object) ([]string, bool) {
	var l []string
	for _, place := range o.Items {
		if place > math.MaxInt || int(place) < from || int(place) >= at {
			return nil, false
		}
		x, ok := slowAt(b, int(place))
		if !ok || x.o.Kind != 1 {
			return nil, false
		}
		l = append(l, string(x.o.Raw))
	}
	return l, true
}

func slowEntries(b []byte, from, to int) ([]api.Record, bool) {
	var l []api.Record
	for _, x := range slowAll(b, from, to) {
		if x.o.Kind != 3 {
			continue
		}
		items, ok := slowItems(b, from, x.at, x.o)
		if !ok {
			return nil, false
		}
		l = append(l, api.Record{Seq: x.o.Words[0], Real: x.o.Words[1], Mono: x.o.Words[2], Boot: x.o.Words[3], Items: items})
	}
	return l, true
}

func alike(a, b api.Record) bool {
	return a.Seq == b.Seq && a.Real == b.Real && a.Mono == b.Mono && a.Boot == b.Boot && slices.Equal(a.Items, b.Items)
}

// isAll looks that just these objects are gone through.
func isAll(t *testing.T, b []byte, from, to int, want []found) {
	t.Helper()
	i := 0
	for at, o := range All(b, from, to) {
		if i >= len(want) || at != want[i].at || !obj.Same(o, want[i].o) {
			t.Fatal("All", from, to, "number", i, at, o)
		}
		i++
	}
	if i != len(want) {
		t.Fatal("All", from, to, "has", i, "of", len(want))
	}
}

// isLike looks that each call tells what the chapter, done slowly, does.
func isLike(t *testing.T, b []byte, from, to int) {
	t.Helper()
	all := slowAll(b, from, to)
	isAll(t, b, from, to, all)
	if is := Whole(b, from, to); is != slowWhole(b, from, to) {
		t.Fatal("Whole", from, to, is)
	}
	for kind := -1; kind < 7; kind++ {
		var want []int
		for _, x := range all {
			if x.o.Kind == kind {
				want = append(want, x.at)
			}
		}
		if l := Places(b, from, to, kind); !slices.Equal(l, want) {
			t.Fatal("Places", from, to, kind, l, want)
		}
	}
	for _, x := range all {
		want, is := slowItems(b, from, x.at, x.o)
		if l, ok := Items(b, from, x.at, x.o); ok != is || !slices.Equal(l, want) {
			t.Fatal("Items", from, x.at, x.o, l, ok)
		}
	}
	want, is := slowEntries(b, from, to)
	if l, ok := Entries(b, from, to); ok != is || !slices.EqualFunc(l, want, alike) {
		t.Fatal("Entries", from, to, l, ok, want)
	}
}

// anyObject makes an object by chance, the numbers of which may be places of those ahead.
func anyObject(r *rand.Rand, ahead []int) obj.Object {
	kind := 1 + r.Intn(4)
	o := obj.Object{Kind: kind}
	for range obj.Words(kind) {
		o.Words = append(o.Words, []uint64{0, 1, 2, 3, 4, 57, 64, r.Uint64()}[r.Intn(8)])
	}
	if kind <= 2 {
		o.Raw = make([]byte, 1+r.Intn(20))
		r.Read(o.Raw)
		return o
	}
	for range 1 + r.Intn(4) {
		place := uint64(r.Intn(400))
		if len(ahead) > 0 && r.Intn(12) > 0 {
			place = uint64(ahead[r.Intn(len(ahead))])
		}
		o.Items = append(o.Items, place)
	}
	return o
}

// anyBytes makes objects, one behind the other, by chance; some bytes of them may be changed.
func anyBytes(r *rand.Rand) []byte {
	b := make([]byte, 8*r.Intn(4))
	var ahead []int
	for range r.Intn(12) {
		o := anyObject(r, ahead)
		if o.Kind == obj.Data {
			ahead = append(ahead, len(b))
		}
		b = append(b, obj.Encode(o)...)
	}
	b = append(b, make([]byte, r.Intn(20))...)
	for n := r.Intn(4); n > 0 && len(b) > 0; n-- {
		b[r.Intn(len(b))] = byte([]int{0, 1, 3, 8, 255}[r.Intn(5)])
	}
	return b
}

// places are some of bytes, at their edges and far beyond.
func places(r *rand.Rand, n int) []int {
	l := []int{math.MinInt, math.MinInt + 8, -1 << 32, -8, -1, 0, 8, 16, 24, n - 8, n - 1, n, n + 1, n + 8, 1 << 32, math.MaxInt - 7, math.MaxInt}
	for range 6 {
		l = append(l, r.Intn(n+1), r.Intn(n+1)/8*8)
	}
	return l
}

// P17.1, P17.2

func TestBytesByChance(t *testing.T) {
	for seed := range int64(400) {
		r := rand.New(rand.NewSource(seed))
		b := anyBytes(r)
		for _, from := range places(r, len(b)) {
			for _, to := range places(r, len(b)) {
				isLike(t, b, from, to)
			}
		}
	}
}

// anyEntries puts entries by chance, and tells them as they are to be read.
func anyEntries(t *testing.T, r *rand.Rand, m *image.Image) []api.Record {
	t.Helper()
	var l []api.Record
	for seq := range uint64(r.Intn(60)) {
		x := api.Record{Seq: seq*seq + 1, Real: r.Uint64(), Mono: r.Uint64(), Boot: uint64(r.Intn(3))}
		for range 1 + r.Intn(5) {
			field := []string{"A", "B", "_C", strings.Repeat("F", 64)}[r.Intn(4)]
			value := []string{strconv.Itoa(r.Intn(9)), "", "\x00", string(obj.Encode(anyObject(r, []int{272})))}[r.Intn(4)]
			x.Items = append(x.Items, field+"="+value)
		}
		if _, e := entry.Add(m, x); e != api.OK {
			if e != api.ErrFile {
				t.Fatal(e)
			}
			return l
		}
		m.Done()
		x.Items = slices.Compact(slices.Sorted(slices.Values(x.Items)))
		l = append(l, x)
	}
	return l
}

// P17.3

func TestFilesOfEntries(t *testing.T) {
	for seed := range int64(60) {
		r := rand.New(rand.NewSource(seed))
		h := head.Head{Key: r.Uint64(), Data: 1 + r.Intn(40), Fields: 1 + r.Intn(5)}
		limit := 1 << 20
		if seed%3 == 0 {
			limit = 5000
		}
		m := image.New(crc.Make(), h, limit)
		want := anyEntries(t, r, m)
		b, from, to := m.Bytes(), h.Objects(), m.Tail()
		if !Whole(b, from, to) {
			t.Fatal("Whole", from, to)
		}
		if l, ok := Entries(b, from, to); !ok || !slices.EqualFunc(l, want, alike) {
			t.Fatal("Entries", l, ok, want)
		}
		if l, ok := Entries(b, from, to); !ok || !slices.EqualFunc(l, entry.All(m), entry.Same) {
			t.Fatal("Entries", l, ok)
		}
		isLike(t, b, from, to)
		for range 40 {
			isLike(t, b, from, from+r.Intn(to-from+1)/8*8)
			isLike(t, b, r.Intn(to+1)/8*8, to)
		}
	}
}
