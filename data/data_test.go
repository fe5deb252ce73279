package data

import (
	"bytes"
	"math"
	"math/rand"
	"slices"
	"strconv"
	"strings"
	"testing"

	"logbook/api"
	"logbook/chain"
	"logbook/crc"
	"logbook/head"
	"logbook/image"
	"logbook/mix"
	"logbook/obj"
)

// empty makes an image of one bucket each, whose objects begin at 272.
func empty(limit int) *image.Image {
	return image.New(crc.Make(), head.Head{ID: 1, Key: 9, Data: 1, Fields: 1}, limit)
}

// intern puts an item in, and tells its place.
func intern(t *testing.T, m *image.Image, s string) int {
	t.Helper()
	at, e := Intern(m, s)
	if at < 272 || e != api.OK {
		t.Fatal("Intern", s, at, e)
	}
	return at
}

func refer(t *testing.T, m *image.Image, at int, l ...uint64) {
	t.Helper()
	for _, x := range l {
		if e := Refer(m, at, x); e != api.OK {
			t.Fatal("Refer", at, x, e)
		}
	}
}

func sameChange(a, b image.Change) bool {
	return a.At == b.At && bytes.Equal(a.Fresh, b.Fresh) && slices.EqualFunc(a.Words, b.Words, func(p, q image.Patch) bool {
		return p.At == q.At && bytes.Equal(p.B, q.B)
	})
}

// unchanged looks that what is done changes nothing.
func unchanged(t *testing.T, what string, m *image.Image, do func()) {
	t.Helper()
	before, change := m.Bytes(), m.Change()
	do()
	if !bytes.Equal(m.Bytes(), before) || !sameChange(m.Change(), change) {
		t.Error(what, "changed", len(before), m.Tail(), change, m.Change())
	}
}

// noItems are texts that may not be items, with the errors that tell why.
func noItems() map[string]api.Errno {
	return map[string]api.Errno{
		"": api.ErrName, "=": api.ErrName, "=1": api.ErrName, "A": api.ErrName, "a=1": api.ErrName,
		"1=1": api.ErrName, "A B=1": api.ErrName, " A=1": api.ErrName, "A\x00=1": api.ErrName, "Ä=1": api.ErrName,
		strings.Repeat("A", 65) + "=": api.ErrName,
		strings.Repeat("A", 2000):     api.ErrName,
		// What is wrong with the field is told first.
		"a=" + strings.Repeat("x", 2000):                          api.ErrName,
		"=" + strings.Repeat("x", 1024):                           api.ErrName,
		strings.Repeat("A", 65) + strings.Repeat("=", 1025):       api.ErrName,
		"A=" + strings.Repeat("x", 1023):                          api.ErrBig,
		"A=" + strings.Repeat("x", 1<<16):                         api.ErrBig,
		strings.Repeat("A", 64) + strings.Repeat("=", 961):        api.ErrBig,
		"_=" + strings.Repeat("\x00", 1023):                       api.ErrBig,
		"A=" + strings.Repeat("=", 1022) + "\xff":                 api.ErrBig,
		strings.Repeat("Z", 63) + "=" + string(make([]byte, 961)): api.ErrBig,
	}
}

// P15.1

func TestIntern(t *testing.T) {
	m := empty(1 << 20)
	long := strings.Repeat("L", 64)
	at := map[string]int{}
	for _, s := range []string{
		"A=1", "A=2", "B=1", "A=", "AA=1", "A=1=2", "_=\x00", "A=1\x00", "A=\xff\xfe", "A1=x", "A= ",
		long + "=1", "A=" + strings.Repeat("x", 1022), long + "=" + strings.Repeat("\xff", 959),
	} {
		tail := m.Tail()
		if at[s] = intern(t, m, s); at[s] != tail {
			t.Error(s, at[s], tail)
		}
		o, ok := m.Object(tail)
		if !ok || o.Kind != obj.Data || string(o.Raw) != s || !slices.Equal(o.Words, []uint64{mix.Hash(9, []byte(s)), 0, 0, 0, 0}) {
			t.Error(s, o, ok)
		}
	}
	for s, want := range at {
		unchanged(t, s, m, func() {
			if again, e := Intern(m, s); again != want || e != api.OK {
				t.Error("again", s, again, e)
			}
			if there, ok := Find(m, s); there != want || !ok {
				t.Error("Find", s, there, ok)
			}
		})
	}
	for _, s := range []string{"", "A", "AA", "A=3", "A=12", "AA=2", "AA=", "B=", "B", "a=1", "A=1 ", long, "_=", "A=\x00", "A=" + strings.Repeat("x", 1023)} {
		if there, ok := Find(m, s); there != 0 || ok {
			t.Error("Find", s, there, ok)
		}
	}
}

// Each of these follows from one that is put in: its data, and its field, once.
func TestWhatIsPut(t *testing.T) {
	m := empty(1 << 20)
	kinds := func(from int) []int {
		var l []int
		for from < m.Tail() {
			o, next, ok := obj.Decode(m.Bytes(), from)
			if !ok {
				t.Fatal(from)
			}
			l, from = append(l, o.Kind), next
		}
		return l
	}
	for _, c := range []struct {
		s    string
		want []int
	}{
		{"A=1", []int{obj.Data, obj.Field}},
		{"A=2", []int{obj.Data}},
		{"AA=2", []int{obj.Data, obj.Field}},
		{"A=A", []int{obj.Data}},
		{"A=2", nil},
		{"B=A=1", []int{obj.Data, obj.Field}},
		{"B=", []int{obj.Data}},
		{"A=1", nil},
	} {
		tail := m.Tail()
		intern(t, m, c.s)
		if l := kinds(tail); !slices.Equal(l, c.want) {
			t.Error(c.s, l, c.want)
		}
	}
}

// A new item of a field is led to by the field's Head, or by the Sibling of the last one.
func TestLinks(t *testing.T) {
	m := empty(1 << 20)
	first := intern(t, m, "A=0")
	// Data of 64 bytes, and the field behind it.
	field := first + 64
	if o, ok := m.Object(field); !ok || o.Kind != obj.Field || string(o.Raw) != "A" || m.Word(field+32) != uint64(first) {
		t.Fatal(o, ok)
	}
	link := first + 32
	for i := 1; i < 40; i++ {
		intern(t, m, "B="+strconv.Itoa(i))
		m.Done()
		at := intern(t, m, "A="+strconv.Itoa(i))
		c := m.Change()
		// Both words lead to it: the Next of the last one of the bucket, and the Sibling of the field's last one.
		if len(c.Words) != 2 || c.Words[1].At != link || m.Word(link) != uint64(at) || m.Word(field+32) != uint64(first) {
			t.Fatal(i, at, c, link)
		}
		link = at + 32
	}
}

func TestInternRefused(t *testing.T) {
	m := empty(1 << 20)
	intern(t, m, "A=1")
	for s, want := range noItems() {
		for _, m := range []*image.Image{m, empty(0), empty(1 << 20)} {
			unchanged(t, s, m, func() {
				if at, e := Intern(m, s); at != 0 || e != want {
					t.Error(len(s), s[:min(len(s), 9)], at, e, want)
				}
			})
		}
		if at, ok := Find(m, s); at != 0 || ok {
			t.Error("Find", s, at, ok)
		}
		if at, e := Intern(nil, s); at != 0 || e != api.ErrNil {
			t.Error("of nil", s, at, e)
		}
	}
	if at, e := Intern(nil, "A=1"); at != 0 || e != api.ErrNil {
		t.Error(at, e)
	}
	if at, ok := Find(nil, "A=1"); at != 0 || ok {
		t.Error(at, ok)
	}
}

// At each limit there is room for both, for the data alone, which stay then, or for nothing.
func TestInternWithoutRoom(t *testing.T) {
	// The data takes 64 bytes, the field 48.
	for limit := 272; limit < 272+64+48+64+3; limit++ {
		m := empty(limit)
		before := m.Bytes()
		at, e := Intern(m, "A=1")
		there, found := Find(m, "A=1")
		again, eAgain := Intern(m, "A=1")
		switch {
		case limit < 272+64:
			if at != 0 || e != api.ErrFile || found || there != 0 || again != 0 || eAgain != api.ErrFile || !bytes.Equal(m.Bytes(), before) {
				t.Error(limit, at, e, there, found, again, eAgain, m.Tail())
			}
		case limit < 272+64+48:
			if at != 0 || e != api.ErrFile || !found || there != 272 || again != 272 || eAgain != api.OK || m.Tail() != 272+64 || told(m, "A") != nil {
				t.Error(limit, at, e, there, found, again, eAgain, m.Tail(), told(m, "A"))
			}
			m.Back()
			if there, found = Find(m, "A=1"); there != 0 || found || !bytes.Equal(m.Bytes(), before) {
				t.Error(limit, "taken back", there, found)
			}
		default:
			if at != 272 || e != api.OK || there != 272 || !found || again != 272 || eAgain != api.OK || m.Tail() != 272+64+48 {
				t.Error(limit, at, e, there, found, again, eAgain)
			}
			// Of a field that is there the data alone needs room.
			before = m.Bytes()
			at, e = Intern(m, "A=2")
			if limit < 272+64+48+64 {
				if at != 0 || e != api.ErrFile || !bytes.Equal(m.Bytes(), before) || !slices.Equal(told(m, "A"), []value{{272, "A=1"}}) {
					t.Error(limit, at, e)
				}
			} else if at != 272+64+48 || e != api.OK || !slices.Equal(told(m, "A"), []value{{272, "A=1"}, {at, "A=2"}}) {
				t.Error(limit, at, e)
			}
		}
	}
}

// P15.2

func TestValues(t *testing.T) {
	m := empty(1 << 20)
	want := map[string][]value{}
	for i := range 60 {
		// They don't rise, neither by their numbers nor by their bytes.
		field := []string{"A", "AA", "B", "_", "A_", strings.Repeat("A", 64)}[i*i%6]
		s := field + "=" + strconv.Itoa(i*37%60)
		want[field] = append(want[field], value{intern(t, m, s), s})
		intern(t, m, s)
		for field, l := range want {
			if got := told(m, field); !slices.Equal(got, l) {
				t.Fatal(i, field, got, l)
			}
		}
	}
	for _, field := range []string{"", "=", "A=", "A=1", "a", "AAA", "AB", "C", "A ", "A\x00", strings.Repeat("A", 63), strings.Repeat("A", 65), strings.Repeat("A", 2000)} {
		if l := told(m, field); l != nil {
			t.Error(field, l)
		}
	}
}

// Iterators are never nil, may end early, and be gone through again.
func TestGoneThrough(t *testing.T) {
	m := empty(1 << 20)
	var l []string
	var refs []uint64
	for i := range 15 {
		l = append(l, "A="+strconv.Itoa(i))
		intern(t, m, l[i])
		refs = append(refs, uint64(8*i+8))
		refer(t, m, 272, refs[i])
	}
	values, entries := Values(m, "A"), Entries(m, 272)
	for n := range len(l) + 1 {
		var got []string
		for _, s := range values {
			if len(got) == n {
				break
			}
			got = append(got, s)
		}
		var gotRefs []uint64
		for x := range entries {
			if len(gotRefs) == n {
				break
			}
			gotRefs = append(gotRefs, x)
		}
		if !slices.Equal(got, l[:n]) || !slices.Equal(gotRefs, refs[:n]) {
			t.Error(n, got, gotRefs)
		}
	}
	for _, m := range []*image.Image{m, nil} {
		for _, field := range []string{"", "B", "a", "A=1"} {
			s := Values(m, field)
			if s == nil {
				t.Fatal("no iterator")
			}
			for at, item := range s {
				t.Error(field, at, item)
			}
		}
		for _, at := range []int{math.MinInt, -8, 0, 8, 256, 280, 336, 1 << 20, math.MaxInt} {
			s := Entries(m, at)
			if s == nil {
				t.Fatal("no iterator")
			}
			for x := range s {
				t.Error(at, x)
			}
		}
	}
}

// P15.3

func TestRefer(t *testing.T) {
	m := empty(1 << 20)
	a, b, c := intern(t, m, "A=1"), intern(t, m, "A=2"), intern(t, m, "B=1")
	var of, ofB []uint64
	for i := range uint64(100) {
		areRefs(t, m, a, of)
		areRefs(t, m, b, ofB)
		areRefs(t, m, c, nil)
		of = append(of, 1000+8*i)
		refer(t, m, a, of[i])
		if i%3 == 0 {
			ofB = append(ofB, 1000+8*i)
			refer(t, m, b, 1000+8*i)
		}
	}
	if o, _ := m.Object(a); o.Words[obj.First] != 1000 || !slices.Equal(slices.Collect(chain.All(m, a+obj.At(obj.Chain))), of[1:]) {
		t.Error(o)
	}
	if o, _ := m.Object(c); o.Words[obj.First] != 0 || o.Words[obj.Chain] != 0 {
		t.Error(o)
	}
	// Items that come later are none the less there, and have none.
	d := intern(t, m, "A=3")
	areRefs(t, m, d, nil)
	areRefs(t, m, a, of)
}

// The first entry takes a word of the item alone, the second one an array of four, the sixth one an array of eight.
func TestWhatReferPuts(t *testing.T) {
	m := empty(1 << 20)
	at := intern(t, m, "A=1")
	for i := range 14 {
		m.Done()
		tail := m.Tail()
		refer(t, m, at, uint64(i+7))
		c := m.Change()
		size := map[int]int{1: 24 + 4*8, 5: 24 + 8*8, 13: 24 + 16*8}[i]
		if len(c.Fresh) != size || m.Tail() != tail+size || len(c.Words) != 1 {
			t.Error(i, c)
		}
		if i == 0 && c.Words[0].At != at+40 || i == 1 && c.Words[0].At != at+48 {
			t.Error(i, c)
		}
	}
}

// Entries are any numbers but 0, also alike ones, and in any order.
func TestAnyEntries(t *testing.T) {
	m := empty(1 << 20)
	l := []uint64{math.MaxUint64, 1, 1, 1 << 63, 272, 5, 5, 5, 1 << 32, 3, math.MaxUint64}
	at := intern(t, m, "A=1")
	refer(t, m, at, l...)
	areRefs(t, m, at, l)
	at = intern(t, m, "A=2")
	l = []uint64{4, 4, 4, 4, 4, 4, 9, 9}
	refer(t, m, at, l...)
	areRefs(t, m, at, l)
	at = intern(t, m, "A=3")
	refer(t, m, at, math.MaxUint64)
	areRefs(t, m, at, []uint64{math.MaxUint64})
}

func TestSearch(t *testing.T) {
	m := empty(1 << 20)
	at := intern(t, m, "A=1")
	for n := range uint64(70) {
		// Entries from 2 on, each 2 above the one ahead.
		for place := range 2*n + 5 {
			want := min(int(n), max(0, int(place+1)/2-1))
			if k := Search(m, at, place); k != want {
				t.Fatal(n, place, k, want)
			}
		}
		if Search(m, at, math.MaxUint64) != int(n) || Search(m, at, 1<<63) != int(n) {
			t.Error(n)
		}
		refer(t, m, at, 2*n+2)
	}
}

func TestNth(t *testing.T) {
	m := empty(1 << 20)
	at := intern(t, m, "A=1")
	for _, i := range []int{math.MinInt, -1, 0, 1, math.MaxInt} {
		if x, ok := Nth(m, at, i); x != 0 || ok {
			t.Error("none yet", i, x, ok)
		}
	}
	refer(t, m, at, 10, 20, 30, 40, 50, 60, 70)
	for _, i := range []int{math.MinInt, math.MinInt + 1, math.MinInt + 2, -1 << 32, -8, -7, -2, -1, 7, 8, 12, 13, 1 << 32, 1<<32 | 1, math.MaxInt - 1, math.MaxInt} {
		if x, ok := Nth(m, at, i); x != 0 || ok {
			t.Error(i, x, ok)
		}
	}
	areRefs(t, m, at, []uint64{10, 20, 30, 40, 50, 60, 70})
}

// isNone looks that a place is taken for no data object's.
func isNone(t *testing.T, m *image.Image, at int) {
	t.Helper()
	if e := Refer(m, at, 8); e != api.ErrArg {
		t.Error("Refer", at, e)
	}
	if l := slices.Collect(Entries(m, at)); l != nil {
		t.Error("Entries", at, l)
	}
	if n := Count(m, at); n != 0 {
		t.Error("Count", at, n)
	}
	for _, i := range []int{math.MinInt, -1, 0, 1, 2, math.MaxInt} {
		if x, ok := Nth(m, at, i); x != 0 || ok {
			t.Error("Nth", at, i, x, ok)
		}
	}
	for _, place := range []uint64{0, 1, 8, math.MaxUint64} {
		if k := Search(m, at, place); k != 0 {
			t.Error("Search", at, place, k)
		}
	}
}

func TestPlacesOfNoData(t *testing.T) {
	m := empty(1 << 20)
	places := map[int]bool{}
	for i := range 6 {
		at := intern(t, m, "A"+strconv.Itoa(i%2)+"="+strconv.Itoa(i))
		places[at] = true
		refer(t, m, at, 100, 200, 300)
	}
	entry, e := m.Put(obj.Object{Kind: obj.Entry, Words: make([]uint64, 5), Items: []uint64{272}})
	if e != api.OK || places[entry] {
		t.Fatal(entry, e)
	}
	unchanged(t, "no data", m, func() {
		for at := -20; at < m.Tail()+200; at++ {
			if !places[at] {
				isNone(t, m, at)
			}
		}
		for _, at := range []int{math.MinInt, math.MinInt + 272, -1 << 32, -1<<32 | 272, 1<<32 | 272, 1 << 20, math.MaxInt, math.MaxInt - 7} {
			isNone(t, m, at)
			isNone(t, nil, at)
		}
		isNone(t, nil, 272)
		// Entry 0, of places that are right and that are not.
		for at := range places {
			if e := Refer(m, at, 0); e != api.ErrArg {
				t.Error(at, e)
			}
		}
		for _, at := range []int{-1, 0, 8, 280, entry, m.Tail()} {
			if e := Refer(m, at, 0); e != api.ErrArg {
				t.Error(at, e)
			}
		}
		if e := Refer(nil, 272, 0); e != api.ErrArg {
			t.Error(e)
		}
	})
	for at := range places {
		areRefs(t, m, at, []uint64{100, 200, 300})
	}
}

// Bytes of an item that look like an object are none: neither where that has bytes of its own, nor where it is like one that is there.
func TestItemsThatLookLikeObjects(t *testing.T) {
	m := empty(1 << 20)
	other := intern(t, m, "A=1")
	there, _ := m.Object(other)
	for _, o := range []obj.Object{
		there,
		{Kind: obj.Data, Words: make([]uint64, 5), Raw: []byte("A=2")},
		{Kind: obj.Data, Words: []uint64{mix.Hash(9, []byte("A=3")), 0, 0, 0, 0}, Raw: []byte("A=3")},
		{Kind: obj.Data, Words: []uint64{7, 0, 0, 500, 0}, Raw: []byte("A=4")},
		{Kind: obj.Data, Words: []uint64{7, 272, 272, 500, 272}, Raw: []byte("A=5")},
	} {
		s := "LIKE=xyz" + string(obj.Encode(o))
		at := intern(t, m, s)
		if inner, ok := m.At(uint64(at+64), obj.Data); !ok || !obj.Same(inner, o) {
			t.Fatal("nothing that looks like an object", at)
		}
		intern(t, m, "A=9")
		unchanged(t, "an item that looks like an object", m, func() { isNone(t, m, at+64) })
		refer(t, m, at, 5, 6)
		areRefs(t, m, at, []uint64{5, 6})
		if again, ok := Find(m, s); again != at || !ok {
			t.Error(at, again, ok)
		}
	}
	areRefs(t, m, other, nil)
}

// At each limit there is room, or nothing has changed. The first entry needs none.
func TestReferWithoutRoom(t *testing.T) {
	for limit := 272 + 112; limit < 272+112+56+88+152+9; limit++ {
		m := empty(limit)
		at := intern(t, m, "A=1")
		tail, room := m.Tail(), 1
		var want []uint64
		for i := range 30 {
			if room == 0 {
				size := map[int]int{1: 4, 5: 8, 13: 16, 29: 32}[i]
				if tail+24+8*size > limit {
					unchanged(t, "no room", m, func() {
						if e := Refer(m, at, 900); e != api.ErrFile {
							t.Error(limit, i, e)
						}
					})
					break
				}
				tail, room = tail+24+8*size, size
			}
			want = append(want, uint64(i+500))
			refer(t, m, at, want[i])
			room--
		}
		areRefs(t, m, at, want)
		if m.Tail() != tail {
			t.Error(limit, m.Tail(), tail)
		}
		// What may not be is told ahead of the room.
		if Refer(m, at, 0) != api.ErrArg || Refer(m, at+8, 900) != api.ErrArg {
			t.Error(limit)
		}
	}
}

// P15.4

// Every item is there once, and is one of its field's; in images that were copied, loaded, or taken back, too.
func TestEachOnce(t *testing.T) {
	for _, buckets := range []int{1, 3, 256} {
		h := head.Head{Key: 5, Data: buckets, Fields: buckets}
		m := image.New(crc.Make(), h, 1<<20)
		at, values, refs := map[string]int{}, map[string][]string{}, map[string][]uint64{}
		put := func(m *image.Image, i int) {
			field := "F" + strconv.Itoa(i%7)
			s := field + "=" + strconv.Itoa(i*i%211)
			k := intern(t, m, s)
			if was, ok := at[s]; ok && was != k {
				t.Fatal("twice", s, was, k)
			} else if !ok {
				at[s], values[field] = k, append(values[field], s)
			}
			refer(t, m, k, uint64(8*i+8))
			refs[s] = append(refs[s], uint64(8*i+8))
		}
		for i := range 400 {
			put(m, i)
		}
		m.Done()
		was := m.Bytes()
		intern(t, m, "F0=new")
		intern(t, m, "G=new")
		refer(t, m, at["F0=0"], 7, 7, 7, 7, 7, 7, 7, 7, 7)
		m.Back()
		if !bytes.Equal(m.Bytes(), was) {
			t.Error("not taken back")
		}
		for _, m := range []*image.Image{m, m.Copy(), image.Load(h, was, 1<<20)} {
			for s, k := range at {
				if there, ok := Find(m, s); there != k || !ok {
					t.Fatal(s, there, k)
				}
				areRefs(t, m, k, refs[s])
			}
			for field, want := range values {
				var l []string
				for k, s := range Values(m, field) {
					if at[s] != k {
						t.Error(s, k, at[s])
					}
					l = append(l, s)
				}
				if !slices.Equal(l, want) {
					t.Error(field, l, want)
				}
			}
			if told(m, "G") != nil {
				t.Error("G")
			}
		}
	}
}

// A full file: items that have just so much room, and lists behind them.
func TestFullFile(t *testing.T) {
	m := image.New(crc.Make(), head.Head{Key: 5, Data: 256, Fields: 1}, math.MaxInt)
	var l []value
	for i := 0; ; i++ {
		s := "A=" + strconv.Itoa(i) + strings.Repeat("x", 400)
		tail := m.Tail()
		at, e := Intern(m, s)
		if e != api.OK {
			if at != 0 || e != api.ErrFile || m.Tail() != tail || tail > 1<<20 || tail+470 <= 1<<20 {
				t.Error(i, at, e, tail)
			}
			break
		}
		l = append(l, value{at, s})
	}
	if got := told(m, "A"); !slices.Equal(got, l) {
		t.Error(len(got), len(l))
	}
	for i, x := range l {
		refer(t, m, x.at, uint64(i+1))
		areRefs(t, m, x.at, []uint64{uint64(i + 1)})
	}
}

// Of files whose words lead anywhere nothing is promised, but that all calls end.
func TestWordsThatLeadAnywhere(t *testing.T) {
	for seed := range int64(300) {
		r := rand.New(rand.NewSource(seed))
		h := head.Head{Data: 1 + r.Intn(2), Fields: 1 + r.Intn(2)}
		m := image.New(crc.Make(), h, 1<<20)
		var l []int
		for i := range 8 {
			l = append(l, intern(t, m, "A="+strconv.Itoa(i)))
			refer(t, m, l[0], uint64(i+1))
		}
		b := m.Bytes()
		for range 1 + r.Intn(20) {
			at, x := 256+8*r.Intn((len(b)-256)/8), uint64(0)
			switch r.Intn(4) {
			case 0:
				x = r.Uint64()
			case 1:
				x = uint64(8 * r.Intn(len(b)/8+3))
			default:
				x = uint64(l[r.Intn(len(l))])
			}
			for i := range 8 {
				b[at+i] = byte(x >> (8 * i))
			}
		}
		m = image.Load(h, b, 1<<20)
		for i, at := range append(l, -8, 8, len(b)-8) {
			Count(m, at)
			Nth(m, at, i)
			Search(m, at, uint64(i))
			Refer(m, at, uint64(i))
			Find(m, "A="+strconv.Itoa(i))
			Intern(m, "A=x"+strconv.Itoa(i))
			told(m, "A")
			for range Entries(m, at) {
			}
		}
	}
}

// The example of the document.
func TestExample(t *testing.T) {
	m := empty(1 << 20)
	a, _, c := intern(t, m, "A=1"), intern(t, m, "B=2"), intern(t, m, "A=3")
	if l := told(m, "A"); !slices.Equal(l, []value{{a, "A=1"}, {c, "A=3"}}) {
		t.Error(l)
	}
}
