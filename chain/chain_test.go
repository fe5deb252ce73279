package chain

import (
	"bytes"
	"iter"
	"math"
	"slices"
	"testing"

	"logbook/api"
	"logbook/crc"
	"logbook/head"
	"logbook/image"
	"logbook/obj"
	"logbook/table"
)

// empty makes an image without objects, which begin at 272.
func empty(limit int) *image.Image {
	return image.New(crc.Make(), head.Head{ID: 1, Key: 9, Data: 1, Fields: 1}, limit)
}

// putArray puts an array, and tells its place.
func putArray(t *testing.T, m *image.Image, more uint64, items ...uint64) int {
	t.Helper()
	at, e := m.Put(obj.Object{Kind: obj.Array, Words: []uint64{more}, Items: items})
	if e != api.OK {
		t.Fatal("Put", e)
	}
	return at
}

func set(t *testing.T, m *image.Image, at int, x uint64) {
	t.Helper()
	if e := m.Set(at, x); e != api.OK {
		t.Fatal("Set", at, x, e)
	}
}

func add(t *testing.T, m *image.Image, root int, l ...uint64) {
	t.Helper()
	for _, x := range l {
		if e := Append(m, root, x); e != api.OK {
			t.Fatal("Append", root, x, e)
		}
	}
}

// is looks that a list is this one.
func is(t *testing.T, what string, m *image.Image, root int, want ...uint64) {
	t.Helper()
	isLike(t, m, newSlow(m, 0), root)
	if l := slices.Collect(All(m, root)); !slices.Equal(l, want) {
		t.Error(what, l, want)
	}
}

func sameChange(a, b image.Change) bool {
	return a.At == b.At && bytes.Equal(a.Fresh, b.Fresh) && slices.EqualFunc(a.Words, b.Words, func(p, q image.Patch) bool {
		return p.At == q.At && bytes.Equal(p.B, q.B)
	})
}

// refused looks that a place isn't taken, and that nothing has changed.
func refused(t *testing.T, what string, m *image.Image, root int, x uint64, want api.Errno) {
	t.Helper()
	before, change := m.Bytes(), m.Change()
	e := Append(m, root, x)
	if e != want || !bytes.Equal(m.Bytes(), before) || !sameChange(m.Change(), change) {
		t.Error(what, root, x, e, want, len(before), m.Tail(), change, m.Change())
	}
}

// noRoots are places at which no word can be set.
var noRoots = []int{
	math.MinInt, math.MinInt + 8, -1 << 32, -192, -8, -1, 0, 8, 64, 120, 128, 184, 191, 193, 196, 199, 201, 257, 260,
	265, 268, 271, 1 << 20, 1 << 32, 1<<32 | 192, math.MaxInt - 7, math.MaxInt,
}

// P14.1

func TestSize(t *testing.T) {
	if FirstSize != 4 {
		t.Error(FirstSize)
	}
	for n, want := range sizes {
		if Size(n) != want {
			t.Error(n, Size(n), want)
		}
	}
	for n := 9; n < 300; n++ {
		if Size(n) != 1024 {
			t.Error(n, Size(n))
		}
	}
	for _, n := range []int{1 << 16, 1<<31 - 1, 1 << 31, 1 << 32, 1<<32 | 1, 1 << 62, math.MaxInt - 1, math.MaxInt} {
		if Size(n) != 1024 {
			t.Error(n, Size(n))
		}
	}
	for _, n := range []int{-1, -2, -3, -8, -62, -63, -64, -1 << 32, -1<<32 | 1, math.MinInt, math.MinInt + 1} {
		if Size(n) != 0 {
			t.Error(n, Size(n))
		}
	}
}

// P14.1, P14.3

func TestArraysAndAll(t *testing.T) {
	m := empty(1 << 20)
	// They are of 56, 32 and 48 bytes, whatever Size tells.
	putArray(t, m, 328, 1, 2, 3, 4)
	putArray(t, m, 408, 5)
	putArray(t, m, 0, 9, 8, 0)
	putArray(t, m, 272, 6, 7, 0, 8, 0)
	putArray(t, m, 0, 10)
	for root, first := range map[int]uint64{192: 272, 200: 328, 208: 360, 216: 408, 224: 280, 232: 8, 240: math.MaxUint64, 248: 1<<32 | 272, 256: 1 << 63, 264: uint64(m.Tail())} {
		set(t, m, root, first)
	}
	for root, want := range map[int][]int{192: {272, 328, 408}, 200: {328, 408}, 208: {360}, 216: {408}} {
		for range 2 {
			var at []int
			for place, o := range Arrays(m, root) {
				at = append(at, place)
				if there, ok := m.Object(place); !ok || !obj.Same(o, there) {
					t.Error(root, place, o)
				}
			}
			if !slices.Equal(at, want) {
				t.Error(root, at, want)
			}
		}
	}
	is(t, "up to the first 0", m, 192, 1, 2, 3, 4, 5, 6, 7)
	is(t, "from the second array on", m, 200, 5, 6, 7)
	is(t, "one array", m, 208, 9, 8)
	is(t, "back to the first one", m, 216, 6, 7)
	for _, root := range append([]int{224, 232, 240, 248, 256, 264}, noRoots...) {
		is(t, "none", m, root)
	}
}

// A 0 ends the list, in whatever array it stands; what stands behind it is none of it.
func TestUpToTheFirstNought(t *testing.T) {
	for end := range 7 {
		m := empty(1 << 20)
		items := []uint64{11, 12, 13, 14, 15, 16}
		want := slices.Clone(items)
		if end < len(items) {
			want, items[end] = slices.Clone(items[:end]), 0
		}
		putArray(t, m, 328, items[0], items[1], items[2], items[3])
		putArray(t, m, 0, items[4], items[5])
		set(t, m, 192, 272)
		is(t, "up to the first 0", m, 192, want...)
	}
}

// Entries, data and fields are no arrays, even if words lead there.
func TestOtherKinds(t *testing.T) {
	for kind := obj.Data; kind <= obj.Entry; kind++ {
		m := empty(1 << 20)
		o := obj.Object{Kind: kind, Words: make([]uint64, obj.Words(kind)), Raw: []byte("A")}
		if kind == obj.Entry {
			o.Raw, o.Items = nil, []uint64{272}
		}
		at, e := m.Put(o)
		if e != api.OK {
			t.Fatal(e)
		}
		set(t, m, 192, uint64(at))
		is(t, "no array", m, 192)
		set(t, m, 200, uint64(putArray(t, m, uint64(at), 1)))
		is(t, "an array alone", m, 200, 1)
		refused(t, "its word leads to no array", m, 192, 5, api.ErrTwice)
	}
}

// A list is no longer than its arrays lead on by rising places.
func TestRings(t *testing.T) {
	m := empty(1 << 20)
	putArray(t, m, 272, 1)
	putArray(t, m, 336, 2)
	putArray(t, m, 304, 3)
	for root, first := range map[int]uint64{192: 272, 200: 304, 208: 336} {
		set(t, m, root, first)
	}
	is(t, "to itself", m, 192, 1)
	is(t, "back to the one ahead", m, 200, 2, 3)
	is(t, "back from the last", m, 208, 3)
	for _, root := range []int{192, 200, 208} {
		refused(t, "full, and it leads on", m, root, 5, api.ErrTwice)
	}
}

// The iterators may end early, and be gone through again; what they tell may be changed meanwhile.
func TestGoneThrough(t *testing.T) {
	m := empty(1 << 20)
	var want []uint64
	for i := range uint64(30) {
		want = append(want, i+7)
	}
	add(t, m, 192, want...)
	was := m.Bytes()
	all, arrays := All(m, 192), Arrays(m, 192)
	for n := range len(want) + 1 {
		var l []uint64
		for x := range all {
			if len(l) == n {
				break
			}
			l = append(l, x)
		}
		if !slices.Equal(l, want[:n]) {
			t.Error(n, l)
		}
	}
	for n := range 5 {
		i := 0
		for _, o := range arrays {
			if i == n {
				break
			}
			if len(o.Items) != Size(i) {
				t.Error(n, i, o)
			}
			clear(o.Items)
			o.Words[0] = 272
			i++
		}
		if i != n {
			t.Error(i, n)
		}
	}
	is(t, "again", m, 192, want...)
	if !bytes.Equal(m.Bytes(), was) {
		t.Error("changed")
	}
}

func TestNeverNil(t *testing.T) {
	m := empty(1 << 20)
	for _, root := range noRoots {
		for _, m := range []*image.Image{m, nil} {
			if s := All(m, root); s == nil || slices.Collect(s) != nil {
				t.Error("All", root)
			}
			s := Arrays(m, root)
			if s == nil {
				t.Fatal("Arrays", root)
			}
			for at, o := range s {
				t.Error("Arrays", root, at, o)
			}
		}
	}
}

func TestNil(t *testing.T) {
	for _, root := range append([]int{192, 256}, noRoots...) {
		if n := Len(nil, root); n != 0 {
			t.Error("Len", n)
		}
		for _, i := range []int{math.MinInt, -1, 0, 1, math.MaxInt} {
			if x, ok := Nth(nil, root, i); x != 0 || ok {
				t.Error("Nth", i, x, ok)
			}
		}
		if k := Search(nil, root, func(uint64) bool { return true }); k != 0 {
			t.Error("Search", k)
		}
		if e := Append(nil, root, 5); e != api.ErrNil {
			t.Error("Append", e)
		}
		if e := Append(nil, root, 0); e != api.ErrArg {
			t.Error("Append of 0", e)
		}
	}
}

func TestNth(t *testing.T) {
	m := empty(1 << 20)
	add(t, m, 192, 10, 20, 30, 40, 50)
	for i, want := range []uint64{10, 20, 30, 40, 50} {
		if x, ok := Nth(m, 192, i); x != want || !ok {
			t.Error(i, x, ok)
		}
	}
	for _, i := range []int{math.MinInt, math.MinInt + 1, -1 << 32, -5, -4, -1, 5, 6, 7, 8, 11, 12, 1 << 32, 1<<32 | 1, math.MaxInt} {
		if x, ok := Nth(m, 192, i); x != 0 || ok {
			t.Error(i, x, ok)
		}
	}
}

func TestSearch(t *testing.T) {
	m := empty(1 << 20)
	for n := range 70 {
		for from := range uint64(2*n + 4) {
			// Places from 2 on, each 2 above the one ahead.
			want := 0
			for want < n && uint64(2*want+2) < from {
				want++
			}
			k := Search(m, 192, func(x uint64) bool {
				if x < 2 || x > uint64(2*n) || x%2 > 0 {
					t.Fatal("it is asked of what isn't there:", x)
				}
				return x >= from
			})
			if k != want {
				t.Error(n, from, k, want)
			}
		}
		if Search(m, 192, func(uint64) bool { return true }) != 0 || Search(m, 192, func(uint64) bool { return false }) != n {
			t.Error(n, "all, or none")
		}
		add(t, m, 192, uint64(2*n+2))
	}
}

// P14.2

// Appending of 0 is refused first of all.
func TestAppendNought(t *testing.T) {
	full, m := empty(272), empty(1<<20)
	add(t, m, 192, 1)
	for _, root := range append([]int{192, 200, 256}, noRoots...) {
		refused(t, "0", m, root, 0, api.ErrArg)
		refused(t, "0, without room", full, root, 0, api.ErrArg)
	}
	set(t, m, 200, 8)
	refused(t, "0, at a word that leads nowhere", m, 200, 0, api.ErrArg)
	is(t, "as before", m, 192, 1)
}

// Each place goes to the first free one of the last array, or to a new array behind all objects.
func TestWhereItIsPut(t *testing.T) {
	m := empty(1 << 20)
	link, at, n, free := 192, 0, 0, 0
	for i := range uint64(4 + 8 + 16 + 32 + 64 + 1) {
		m.Done()
		was := m.Tail()
		add(t, m, 192, i+1)
		c := m.Change()
		if free == 0 {
			if c.At != was || len(c.Fresh) != 24+8*sizes[n] || len(c.Words) != 1 || c.Words[0].At != link || m.Word(link) != uint64(was) {
				t.Fatal("a new array", i, c)
			}
			o, ok := m.Object(was)
			if want := append([]uint64{i + 1}, make([]uint64, sizes[n]-1)...); !ok || o.Kind != obj.Array || !slices.Equal(o.Words, []uint64{0}) || !slices.Equal(o.Items, want) {
				t.Fatal("a new array", i, o)
			}
			at, link, free = was+32, was+16, sizes[n]-1
			n++
			// So that the next array of the list doesn't stand just behind this one.
			putArray(t, m, 0, 77)
			continue
		}
		if c.At != was || len(c.Fresh) != 0 || len(c.Words) != 1 || c.Words[0].At != at || m.Word(at) != i+1 {
			t.Fatal("a free place", i, c, at)
		}
		at, free = at+8, free-1
	}
	if n != 6 {
		t.Error(n)
	}
}

// The last array is filled, whatever stands ahead of it; its first free place first.
func TestAppendToOtherArrays(t *testing.T) {
	m := empty(1 << 20)
	putArray(t, m, 320, 1, 0, 2)
	putArray(t, m, 0, 3, 0, 4, 0)
	set(t, m, 192, 272)
	is(t, "up to the first 0", m, 192, 1)
	add(t, m, 192, 5)
	if o, _ := m.Object(320); !slices.Equal(o.Items, []uint64{3, 5, 4, 0}) {
		t.Error(o)
	}
	add(t, m, 192, 6)
	if o, _ := m.Object(320); !slices.Equal(o.Items, []uint64{3, 5, 4, 6}) {
		t.Error(o)
	}
	// The third array is as long as the third one of each list.
	tail := m.Tail()
	add(t, m, 192, 7)
	if o, ok := m.Object(tail); !ok || len(o.Items) != 16 || o.Items[0] != 7 || m.Word(336) != uint64(tail) {
		t.Error(o, ok)
	}
	is(t, "as before", m, 192, 1)
}

// Places of all kinds are taken: nobody asks whether something is there.
func TestAnyPlaces(t *testing.T) {
	m := empty(1 << 20)
	l := []uint64{1, math.MaxUint64, 1 << 63, 7, 272, 1 << 32, 5}
	add(t, m, 192, l...)
	is(t, "any", m, 192, l...)
	add(t, m, 200, 3, 3, 3, 3, 3)
	if l := slices.Collect(All(m, 200)); !slices.Equal(l, []uint64{3, 3, 3, 3, 3}) || Len(m, 200) != 5 {
		t.Error("alike", l)
	}
}

// Where the word can't be set nothing has changed: no array was put, either.
func TestWordsThatCantBeSet(t *testing.T) {
	for _, root := range noRoots {
		m := empty(1 << 20)
		refused(t, "no such word", m, root, 5, api.ErrArg)
		set(t, m, 256, 99)
		refused(t, "no such word, of an image that is changed", m, root, 5, api.ErrArg)
		refused(t, "a word that leads nowhere", m, 256, 5, api.ErrTwice)
		add(t, m, 192, 5)
		is(t, "the others", m, 192, 5)
	}
	// Words of objects that are none of a list's own.
	m := empty(1 << 20)
	at, _, _ := table.Add(m, obj.Data, []byte("A=1"))
	for _, word := range []int{at, at + 8, at + 16, at + 56} {
		refused(t, "taken", m, word, 5, api.ErrTwice)
	}
	add(t, m, at+obj.At(obj.Chain), 5)
	is(t, "a list of an item", m, at+obj.At(obj.Chain), 5)
	// The last array leads on already, though nothing is there.
	m = empty(1 << 20)
	putArray(t, m, 1000, 1, 2)
	putArray(t, m, uint64(312+40), 3, 4)
	set(t, m, 192, 272)
	set(t, m, 200, 312)
	refused(t, "far on", m, 192, 5, api.ErrTwice)
	refused(t, "just where the new one would be", m, 200, 5, api.ErrTwice)
	is(t, "as before", m, 192, 1, 2)
	is(t, "as before", m, 200, 3, 4)
}

// A word that isn't there yet is none, though it were one of the array that is put.
func TestWordsBehindTheEnd(t *testing.T) {
	for at := 272; at <= 272+80; at++ {
		refused(t, "behind the end", empty(1<<20), at, 5, api.ErrArg)
	}
	// Bytes that were loaded needn't end with a word.
	for n := range 9 {
		b := append(empty(0).Bytes(), make([]byte, n)...)
		m := image.Load(head.Head{Data: 1, Fields: 1}, b, 1<<20)
		if n < 8 {
			refused(t, "no whole word", m, 272, 5, api.ErrArg)
			continue
		}
		add(t, m, 272, 5)
		is(t, "a word", m, 272, 5)
	}
}

// At each limit there is room, or nothing has changed. That there is none is told ahead of a word that can't be set.
func TestNoRoom(t *testing.T) {
	for limit := 200; limit < 272+56+88+152+10; limit++ {
		m := empty(limit)
		tail, room := 272, 0
		for i := range uint64(4 + 8 + 16) {
			if room == 0 {
				size := map[uint64]int{0: 4, 4: 8, 12: 16}[i]
				if tail+24+8*size > limit {
					refused(t, "no room", m, 192, i+1, api.ErrFile)
					is(t, "what was there", m, 192, slices.Collect(All(m, 192))...)
					break
				}
				tail, room = tail+24+8*size, size
			}
			add(t, m, 192, i+1)
			room--
			if m.Tail() != tail {
				t.Fatal(limit, i, m.Tail(), tail)
			}
		}
	}
	for _, root := range noRoots {
		refused(t, "no room, and no such word", empty(272+55), root, 5, api.ErrFile)
		refused(t, "no such word", empty(272+56), root, 5, api.ErrArg)
	}
	for _, limit := range []int{math.MinInt, -1, 0, 272, 272 + 55, 272 + 56} {
		m := empty(limit)
		set(t, m, 192, 99)
		want := api.ErrFile
		if limit >= 272+56 {
			want = api.ErrTwice
		}
		refused(t, "a word that leads nowhere", m, 192, 5, want)
	}
	// A full array that leads on already.
	m := empty(272 + 32 + 88)
	putArray(t, m, 8, 1)
	set(t, m, 192, 272)
	refused(t, "room", m, 192, 5, api.ErrTwice)
	putArray(t, m, 0, 1)
	refused(t, "no room", m, 192, 5, api.ErrFile)
	// What has a free place needs no room.
	m = empty(272 + 56)
	add(t, m, 192, 1, 2, 3, 4)
	refused(t, "a second array", m, 192, 5, api.ErrFile)
	is(t, "four", m, 192, 1, 2, 3, 4)
}

// A list goes on behind its first array of 1024, and up to the last one for which a file has room.
func TestLongLists(t *testing.T) {
	m := empty(math.MaxInt)
	n := uint64(0)
	for range 2044 + 1024 + 1 {
		n++
		add(t, m, 192, n)
	}
	isLong(t, m, int(n))
	// The last array is filled, and others are put behind it, past Append, which would take long.
	for {
		var last int
		for place, o := range Arrays(m, 192) {
			for i, x := range o.Items {
				if last = place; x == 0 {
					n++
					set(t, m, place+24+8*i, n)
				}
			}
		}
		next, e := m.Put(obj.Object{Kind: obj.Array, Words: []uint64{0}, Items: append([]uint64{n + 1}, make([]uint64, 1023)...)})
		if e != api.OK {
			break
		}
		set(t, m, last+16, uint64(next))
		n++
	}
	if m.Tail() > 1<<20 || m.Tail()+24+8*1024 <= 1<<20 {
		t.Error(m.Tail())
	}
	refused(t, "full", m, 192, n+1, api.ErrFile)
	isLong(t, m, int(n))
}

// isLong looks that a list has the numbers from 1 up to n.
func isLong(t *testing.T, m *image.Image, n int) {
	t.Helper()
	arrays, room := 0, 0
	for l := range items(m, 192) {
		if len(l) != sizes[min(arrays, len(sizes)-1)] {
			t.Error(arrays, len(l))
		}
		arrays, room = arrays+1, room+len(l)
	}
	i := uint64(0)
	for x := range All(m, 192) {
		if i++; x != i {
			t.Fatal(x, i)
		}
	}
	if i != uint64(n) || Len(m, 192) != n || room < n || room > n+1023 {
		t.Error(i, n, Len(m, 192), room)
	}
	for _, i := range []int{0, 3, 4, 1019, 1020, 2043, 2044, 3067, 3068, n - 2, n - 1, n, n + 1} {
		if x, ok := Nth(m, 192, i); ok != (i < n) || ok && x != uint64(i+1) {
			t.Error("Nth", i, x, ok)
		}
		if k := Search(m, 192, func(x uint64) bool { return x > uint64(i) }); k != min(i, n) {
			t.Error("Search", i, k)
		}
	}
}

// items goes through the places of arrays, their noughts too.
func items(m *image.Image, root int) iter.Seq[[]uint64] {
	return func(yield func([]uint64) bool) {
		for _, o := range Arrays(m, root) {
			if !yield(o.Items) {
				return
			}
		}
	}
}

// P14.4

// Lists of one image don't come in each other's way, and stay in images that are copied, loaded, or taken back.
func TestWhatWasAppended(t *testing.T) {
	m := empty(1 << 20)
	lists := map[int][]uint64{}
	for i := range uint64(200) {
		at, _, e := table.Add(m, obj.Data, []byte{'A', '=', byte(i % 5)})
		if e != api.OK {
			t.Fatal(e)
		}
		for _, root := range []int{192, at + obj.At(obj.Chain)} {
			add(t, m, root, 8*i+8)
			lists[root] = append(lists[root], 8*i+8)
		}
	}
	m.Done()
	back := m.Copy()
	for root := range lists {
		add(t, back, root, 1, 2, 3)
	}
	other := back.Copy()
	add(t, m, 192, 1, 2, 3)
	m.Back()
	for root, want := range lists {
		is(t, "as it was", m, root, want...)
		is(t, "loaded", image.Load(m.Head(), m.Bytes(), 0), root, want...)
		is(t, "gone on", other, root, append(slices.Clip(want), 1, 2, 3)...)
	}
}

// The example of the document.
func TestExample(t *testing.T) {
	m := empty(1 << 20)
	add(t, m, 192, 1, 2, 3, 4, 5)
	var l []int
	for o := range items(m, 192) {
		l = append(l, len(o))
	}
	if !slices.Equal(l, []int{4, 8}) {
		t.Error(l)
	}
	is(t, "five", m, 192, 1, 2, 3, 4, 5)
}
