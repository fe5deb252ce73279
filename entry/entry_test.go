package entry

import (
	"bytes"
	"math"
	"math/rand"
	"slices"
	"strconv"
	"strings"
	"testing"

	"logbook/api"
	"logbook/chain"
	"logbook/crc"
	"logbook/data"
	"logbook/head"
	"logbook/image"
	"logbook/mix"
	"logbook/obj"
)

// empty makes an image of one bucket each, whose objects begin at 272.
func empty(limit int) *image.Image {
	return image.New(crc.Make(), head.Head{ID: 1, Key: 9, Data: 1, Fields: 1}, limit)
}

// add puts an entry, and tells its place.
func add(t *testing.T, m *image.Image, r api.Record) int {
	t.Helper()
	at, e := Add(m, r)
	if at < 272 || e != api.OK {
		t.Fatal("Add", r.Seq, len(r.Items), at, e)
	}
	return at
}

// of makes an entry of items; its number is also its times and boot, each another way.
func of(seq uint64, items ...string) api.Record {
	return api.Record{Seq: seq, Real: seq * 10, Mono: seq * 100, Boot: seq * 1000, Items: items}
}

func sameChange(a, b image.Change) bool {
	return a.At == b.At && bytes.Equal(a.Fresh, b.Fresh) && slices.EqualFunc(a.Words, b.Words, func(p, q image.Patch) bool {
		return p.At == q.At && bytes.Equal(p.B, q.B)
	})
}

// unchanged looks that what is done changes nothing.
func unchanged(t *testing.T, what string, m *image.Image, do func()) {
	t.Helper()
	before, change := m.Bytes(), m.Change()
	do()
	if !bytes.Equal(m.Bytes(), before) || !sameChange(m.Change(), change) {
		t.Error(what, "changed", len(before), m.Tail(), change, m.Change())
	}
}

// refs tells the entries that have an item.
func refs(m *image.Image, s string) []uint64 {
	at, ok := data.Find(m, s)
	if !ok {
		return nil
	}
	return slices.Collect(data.Entries(m, at))
}

// many makes so many items, which rise, of so many bytes each.
func many(n, size int) []string {
	var l []string
	for i := range n {
		l = append(l, "A="+strconv.Itoa(100+i)+strings.Repeat("x", size-5))
	}
	return l
}

// P16.1

// Each object that is put, and each word that is set, by the chapter's words.
func TestWhatIsPut(t *testing.T) {
	m := empty(1 << 20)
	at := add(t, m, api.Record{Seq: 1, Real: 2, Mono: 3, Boot: 4, Items: []string{"B=1", "A=1", "B=1"}})
	// A=1 and A, B=1 and B, the entry, the first array of the list of all.
	want := []obj.Object{
		{Kind: obj.Data, Words: []uint64{mix.Hash(9, []byte("A=1")), 384, 0, 496, 0}, Raw: []byte("A=1")},
		{Kind: obj.Field, Words: []uint64{mix.Hash(9, []byte("A")), 448, 272}, Raw: []byte("A")},
		{Kind: obj.Data, Words: []uint64{mix.Hash(9, []byte("B=1")), 0, 0, 496, 0}, Raw: []byte("B=1")},
		{Kind: obj.Field, Words: []uint64{mix.Hash(9, []byte("B")), 0, 384}, Raw: []byte("B")},
		{Kind: obj.Entry, Words: []uint64{1, 2, 3, 4, mix.Hash(9, []byte("A=1")) ^ mix.Hash(9, []byte("B=1"))}, Items: []uint64{272, 384}},
		{Kind: obj.Array, Words: []uint64{0}, Items: []uint64{496, 0, 0, 0}},
	}
	from := 272
	for i, o := range want {
		got, ok := m.Object(from)
		if !ok || !obj.Same(got, o) {
			t.Error(i, got, o)
		}
		from += obj.Size(o)
	}
	if at != 496 || m.Tail() != from || m.Word(head.Root) != 568 {
		t.Error(at, m.Tail(), from, m.Word(head.Root))
	}
	// Of items that are there just the entry is put; of their second entry, arrays.
	m.Done()
	at = add(t, m, of(5, "B=1"))
	o, ok := m.Object(at)
	if at != from || !ok || !obj.Same(o, obj.Object{Kind: obj.Entry, Words: []uint64{5, 50, 500, 5000, mix.Hash(9, []byte("B=1"))}, Items: []uint64{384}}) {
		t.Error(at, o)
	}
	c := m.Change()
	if m.Tail() != at+64+56 || len(c.Words) != 2 || c.Words[0].At != 384+48 || c.Words[1].At != 568+24+8 {
		t.Error(m.Tail(), c)
	}
}

// Items are interned and referred to in their order, the list of all is the last one to be set.
func TestOrderOfWords(t *testing.T) {
	m := empty(1 << 20)
	add(t, m, of(1, "A=1", "A=2", "A=3"))
	m.Done()
	at := add(t, m, of(2, "A=3", "A=1", "A=2"))
	// The arrays of the three lists stand behind the entry.
	behind := at + 56 + 24
	places := []int{272, 384, 448}
	c := m.Change()
	if len(c.Words) != 4 {
		t.Fatal(c)
	}
	for i, place := range places {
		there, _ := data.Find(m, "A="+strconv.Itoa(i+1))
		if there != place || c.Words[i].At != place+48 || m.Word(place+48) != uint64(behind+56*i) {
			t.Error(i, there, c.Words[i], m.Word(place+48))
		}
	}
	if list := int(m.Word(head.Root)); c.Words[3].At != list+24+8 || m.Word(list+32) != uint64(at) {
		t.Error(c.Words[3], list)
	}
}

func TestAdd(t *testing.T) {
	m := empty(1 << 20)
	var all []thing
	for i, r := range []api.Record{
		of(1, "A=1"), of(2, "A=1", "B=2"), of(3, "B=2", "A=1"), of(3, "A=2"),
		of(0, "A=1", "A=1", "A=1"), {Items: []string{"Z="}},
		{Seq: math.MaxUint64, Real: math.MaxUint64, Mono: math.MaxUint64, Boot: math.MaxUint64, Items: []string{"A=\x00", "A=", "A=\xff"}},
		of(4, many(64, 128)...), of(4, many(8, 1024)...), of(5, many(64, 16)...),
		of(5, strings.Repeat("N", 64)+"="+strings.Repeat("\xff", 959)),
		{Seq: 1 << 63, Real: 1, Items: []string{"A0=1", "A=2", "_=1", "AA=3"}},
	} {
		given := slices.Clone(r.Items)
		at := add(t, m, r)
		if !slices.Equal(r.Items, given) {
			t.Error("what was handed in", i)
		}
		r.Items = slices.Compact(slices.Sorted(slices.Values(r.Items)))
		all = append(all, thing{at: at, r: r})
		if o, ok := m.Object(at); !ok || o.Kind != obj.Entry || len(o.Items) != len(r.Items) || o.Words[obj.Xor] != Xor(m, r.Items) {
			t.Error(i, o, ok)
		}
		areEntries(t, m, all)
	}
}

// wrong are lists that may not be an entry's, with the errors that tell why.
func wrong() map[api.Errno][][]string {
	long := "A=" + strings.Repeat("x", 1023)
	return map[api.Errno][][]string{
		api.ErrArg: {nil, {}},
		api.ErrName: {
			{""}, {"A"}, {"="}, {"=1"}, {"a=1"}, {"1=1"}, {"A=1", "B"}, {"B", "A=1"}, {"A=1", "", "A=1"}, {"A-=1"},
			{strings.Repeat("A", 65) + "="}, {"A", long}, append(many(63, 8), "x"),
			// The first one that is wrong is told ahead of what they are in all.
			append(many(9, 1000), "a=1"),
		},
		api.ErrBig: {
			{long}, {"A=1", long}, {long, "A"}, many(65, 8), many(65, 1024), append(many(65, 8), "x"), append(many(8, 1024), "A="),
			slices.Repeat([]string{"A=1"}, 65), slices.Repeat(many(1, 1024), 9), many(64, 129),
		},
	}
}

func TestAddRefused(t *testing.T) {
	full := empty(0)
	pending := empty(1 << 20)
	add(t, pending, of(1, "A=1"))
	pending.Done()
	add(t, pending, of(2, "A=1", "A=2"))
	for want, l := range wrong() {
		for i, items := range l {
			for _, m := range []*image.Image{empty(1 << 20), full, pending} {
				unchanged(t, "refused", m, func() {
					if at, e := Add(m, of(9, items...)); at != 0 || e != want {
						t.Error(want, i, at, e)
					}
				})
			}
			if at, e := Add(nil, of(9, items...)); at != 0 || e != api.ErrNil {
				t.Error("of nil", i, at, e)
			}
		}
	}
	if at, e := Add(nil, of(9, "A=1")); at != 0 || e != api.ErrNil {
		t.Error(at, e)
	}
	if n := Len(pending); n != 2 {
		t.Error(n)
	}
}

// At each limit there is room for it all, or nothing is there, however much of it there was room for.
func TestAddWithoutRoom(t *testing.T) {
	r := of(7, "B=22", "A=11", "C=33")
	big := empty(1 << 20)
	add(t, big, r)
	end := big.Tail()
	for limit := -1; limit < end+20; limit++ {
		m := empty(limit)
		before := m.Bytes()
		at, e := Add(m, r)
		if limit >= end {
			if at == 0 || e != api.OK || !bytes.Equal(m.Bytes(), big.Bytes()) {
				t.Error(limit, at, e)
			}
			continue
		}
		if at != 0 || e != api.ErrFile || !bytes.Equal(m.Bytes(), before) || !sameChange(m.Change(), image.Change{At: len(before)}) {
			t.Error(limit, at, e, m.Tail())
		}
		if Len(m) != 0 || refs(m, "A=11") != nil || All(m) != nil {
			t.Error(limit, "there")
		}
		if _, ok := data.Find(m, "A=11"); ok {
			t.Error(limit, "found")
		}
		for range data.Values(m, "A") {
			t.Error(limit, "a value")
		}
	}
	for _, limit := range []int{math.MinInt, -1 << 32, math.MaxInt} {
		if at, e := Add(empty(limit), r); (e == api.OK) != (limit > 0) || (at == 0) != (limit < 0) {
			t.Error(limit, at, e)
		}
	}
}

// Of a file with entries: at each limit the next one is there, or all is as it was, so that the one behind it may be put.
func TestAddBehindOthersWithoutRoom(t *testing.T) {
	first := []api.Record{of(1, "A=1", "B=1"), of(2, "A=1", "B=2"), of(3, "A=1"), of(4, "A=1", "C=1")}
	next, last := of(5, "A=1", "B=1", "D=1"), of(6, "C=1")
	start := empty(1 << 20)
	for _, r := range first {
		add(t, start, r)
	}
	both := start.Copy()
	add(t, both, next)
	end := both.Tail()
	one := start.Copy()
	add(t, one, last)
	for limit := start.Tail(); limit < end+9; limit++ {
		m := image.Load(start.Head(), start.Bytes(), limit)
		at, e := Add(m, next)
		if limit >= end {
			if at != start.Tail()+64+48 || e != api.OK || !bytes.Equal(m.Bytes(), both.Bytes()) {
				t.Error(limit, at, e)
			}
			continue
		}
		if at != 0 || e != api.ErrFile || !bytes.Equal(m.Bytes(), start.Bytes()) {
			t.Error(limit, at, e)
		}
		if limit >= one.Tail() {
			add(t, m, last)
			if !bytes.Equal(m.Bytes(), one.Bytes()) {
				t.Error(limit)
			}
		}
	}
}

// All is as it was at Done: what was put since, by other calls, too, is taken back.
func TestBackToDone(t *testing.T) {
	m := empty(4000)
	add(t, m, of(1, "A=1", "B=1"))
	add(t, m, of(2, "A=1"))
	m.Done()
	done := m.Bytes()
	add(t, m, of(3, "A=1", "C=1"))
	add(t, m, of(4, "B=1", "C=2"))
	if at, e := Add(m, of(5, many(64, 100)...)); at != 0 || e != api.ErrFile {
		t.Error(at, e)
	}
	if !bytes.Equal(m.Bytes(), done) || !sameChange(m.Change(), image.Change{At: len(done)}) {
		t.Error("not as at Done", m.Tail(), len(done))
	}
	if Len(m) != 2 || len(refs(m, "A=1")) != 2 || len(refs(m, "B=1")) != 1 || refs(m, "C=1") != nil {
		t.Error(Len(m))
	}
	// Where nothing was Done yet, nothing stays.
	m = empty(4000)
	add(t, m, of(1, "A=1"))
	if _, e := Add(m, of(5, many(64, 100)...)); e != api.ErrFile || m.Tail() != 272 || m.Word(head.Root) != 0 {
		t.Error(e, m.Tail())
	}
	// No room at all for the first object: all is taken back, too.
	m = empty(272 + 112 + 64 + 56 + 7)
	add(t, m, of(1, "A=1"))
	if _, e := Add(m, of(2, "B=1")); e != api.ErrFile || m.Tail() != 272 {
		t.Error(e, m.Tail())
	}
}

func TestXor(t *testing.T) {
	m := empty(1 << 20)
	sum := func(key uint64, l ...string) uint64 {
		x := uint64(0)
		for _, s := range l {
			x ^= mix.Hash(key, []byte(s))
		}
		return x
	}
	for _, l := range [][]string{
		nil, {}, {""}, {"A=1"}, {"A=1", "B=1"}, {"B=1", "A=1"}, {"A=1", "A=1"}, {"A=1", "B=1", "A=1"}, {"no item", "A", "\xff\x00"}, many(100, 2000),
	} {
		given := slices.Clone(l)
		unchanged(t, "Xor", m, func() {
			if x := Xor(m, l); x != sum(9, l...) || !slices.Equal(l, given) {
				t.Error(l, x)
			}
		})
		if x := Xor(nil, l); x != sum(0, l...) {
			t.Error("of nil", l, x)
		}
	}
	if Xor(m, []string{"A=1", "A=1"}) != 0 || Xor(m, nil) != 0 || Xor(m, []string{"A=1", "B=1", "A=1"}) != Xor(m, []string{"B=1"}) {
		t.Error("with one another")
	}
	other := image.New(crc.Make(), head.Head{Key: 10, Data: 1, Fields: 1}, 0)
	if Xor(other, []string{"A=1"}) == Xor(m, []string{"A=1"}) {
		t.Error("the same by another key")
	}
}

// A full file: entries that have just so much room.
func TestFullFile(t *testing.T) {
	m := image.New(crc.Make(), head.Head{Key: 5, Data: 64, Fields: 1}, math.MaxInt)
	var all []thing
	for i := uint64(1); ; i++ {
		items := []string{"A=" + strconv.FormatUint(i%9, 10), "B=" + strconv.FormatUint(i, 10) + strings.Repeat("x", 900)}
		at, e := Add(m, of(i, items...))
		if e != api.OK {
			if at != 0 || e != api.ErrFile || m.Tail() > 1<<20 || m.Tail() < 1<<20-3000 {
				t.Error(i, at, e, m.Tail())
			}
			break
		}
		m.Done()
		all = append(all, thing{at: at, r: of(i, items...)})
	}
	if Len(m) != len(all) || len(all) < 900 {
		t.Fatal(Len(m), len(all))
	}
	for i, r := range All(m) {
		if !alike(r, all[i].r) {
			t.Error(i, r)
		}
	}
	for i, x := range all {
		if place, ok := Nth(m, i); !ok || place != uint64(x.at) {
			t.Error(i, place, ok)
		}
		if r, ok := Get(m, uint64(x.at)); !ok || !alike(r, x.r) {
			t.Error(i, r, ok)
		}
		if k := Search(m, x.r.Seq); k != i {
			t.Error(i, k)
		}
	}
}

// P16.2

// isNone looks that a place is taken for no entry's.
func isNone(t *testing.T, m *image.Image, place uint64) {
	t.Helper()
	if r, ok := Get(m, place); ok || r.Items != nil || !alike(r, api.Record{}) {
		t.Error("Get", place, r, ok)
	}
}

func TestNoEntries(t *testing.T) {
	for _, m := range []*image.Image{nil, empty(1 << 20), {}} {
		if l := All(m); len(l) != 0 || Len(m) != 0 {
			t.Error(l, Len(m))
		}
		for _, i := range []int{math.MinInt, -1, 0, 1, math.MaxInt} {
			if place, ok := Nth(m, i); place != 0 || ok {
				t.Error(i, place, ok)
			}
		}
		for _, seq := range []uint64{0, 1, 1 << 63, math.MaxUint64} {
			if k := Search(m, seq); k != 0 {
				t.Error(seq, k)
			}
			isNone(t, m, seq)
		}
		for place := range uint64(300) {
			isNone(t, m, place)
		}
	}
}

func TestPlacesOfNoEntry(t *testing.T) {
	m := empty(1 << 20)
	at := uint64(add(t, m, of(1, "A=1")))
	for _, place := range []uint64{
		0, 1, 8, 192, 256, 264, 272, at - 8, at - 1, at + 1, at + 8, uint64(m.Tail()) - 8, uint64(m.Tail()), uint64(m.Tail()) + 8, 1 << 20,
		1 << 31, 1<<32 | at, 1 << 63, 1<<63 | at, math.MaxUint64, math.MaxUint64 - 7,
	} {
		isNone(t, m, place)
		isNone(t, nil, place)
	}
	if r, ok := Get(m, at); !ok || !alike(r, of(1, "A=1")) {
		t.Error(r, ok)
	}
}

// Numbers of an entry, and bytes of an item, may look like an entry: they are none.
func TestWhatLooksLikeAnEntry(t *testing.T) {
	m := empty(1 << 20)
	first := add(t, m, of(1, "A=1"))
	there, _ := m.Object(first)
	isLike := func(place int) {
		t.Helper()
		if _, ok := m.At(uint64(place), obj.Entry); !ok {
			t.Fatal("nothing that looks like an entry", place)
		}
		isNone(t, m, uint64(place))
	}
	at := add(t, m, api.Record{Seq: 3, Real: 64, Items: []string{"A=1", "A=2", "A=3"}})
	isLike(at + 16)
	at = add(t, m, api.Record{Real: 3, Mono: 64, Items: []string{"A=1", "A=2", "A=3", "A=4"}})
	isLike(at + 24)
	at = add(t, m, api.Record{Mono: 3, Boot: 64, Items: []string{"A=1", "A=2", "A=3", "A=4", "A=5"}})
	isLike(at + 32)
	for _, o := range []obj.Object{there, {Kind: obj.Entry, Words: make([]uint64, 5), Items: []uint64{272}}} {
		tail := m.Tail()
		add(t, m, of(9, "B=xxxxxx"+string(obj.Encode(o))))
		isLike(tail + 64)
	}
	if r, ok := Get(m, uint64(first)); !ok || !alike(r, of(1, "A=1")) || Len(m) != 6 {
		t.Error(r, ok)
	}
	// One that isn't in the list is none, either.
	place, e := m.Put(there)
	if e != api.OK {
		t.Fatal(e)
	}
	isLike(place)
}

func TestSearch(t *testing.T) {
	m := empty(1 << 20)
	for n := range uint64(70) {
		// Seqs from 10 on, each 2 above the one ahead.
		for seq := range 2*n + 15 {
			want := 0
			for want < int(n) && uint64(10+2*want) < seq {
				want++
			}
			if k := Search(m, seq); k != want {
				t.Fatal(n, seq, k, want)
			}
		}
		if Search(m, math.MaxUint64) != int(n) || Search(m, 1<<63) != int(n) {
			t.Error(n)
		}
		add(t, m, api.Record{Seq: 10 + 2*n, Real: 1000 - n, Items: []string{"A=1"}})
	}
	// Great numbers, and 0.
	m = empty(1 << 20)
	l := []uint64{0, 1, 1 << 62, 1 << 63, math.MaxUint64 - 1, math.MaxUint64}
	for _, seq := range l {
		add(t, m, of(seq, "A=1"))
	}
	for i, seq := range l {
		if k := Search(m, seq); k != i {
			t.Error(seq, k)
		}
	}
	if Search(m, 2) != 2 || Search(m, 1<<62+1) != 3 || Search(m, math.MaxUint64-2) != 4 {
		t.Error("between")
	}
}

func TestNth(t *testing.T) {
	m := empty(1 << 20)
	var l []uint64
	for i := range uint64(14) {
		l = append(l, uint64(add(t, m, of(i, "A=1"))))
	}
	for i, want := range l {
		if place, ok := Nth(m, i); place != want || !ok {
			t.Error(i, place, ok)
		}
	}
	for _, i := range []int{math.MinInt, -1 << 32, -15, -14, -13, -1, 14, 15, 28, 1 << 32, 1<<32 | 1, math.MaxInt} {
		if place, ok := Nth(m, i); place != 0 || ok {
			t.Error(i, place, ok)
		}
	}
}

// What is told is the caller's: it may be changed.
func TestWhatIsToldIsNew(t *testing.T) {
	m := empty(1 << 20)
	at := uint64(add(t, m, of(1, "A=1", "B=1")))
	add(t, m, of(2, "A=1", "C=1"))
	unchanged(t, "what was told", m, func() {
		l := All(m)
		r, _ := Get(m, at)
		l[0].Items[0], l[1].Items[0], r.Items[1] = "X", "Y", "Z"
		l[0].Seq = 9
		_ = append(l[0].Items[:1], "W")
		_ = append(l[:1], api.Record{})
	})
	areSame := func(l []api.Record) {
		t.Helper()
		if len(l) != 2 || !alike(l[0], of(1, "A=1", "B=1")) || !alike(l[1], of(2, "A=1", "C=1")) {
			t.Error(l)
		}
	}
	areSame(All(m))
	l := All(m)
	add(t, m, of(3, "D=1"))
	m.Back()
	areSame(l)
}

// Images that were copied, loaded, or taken back tell their entries, and take more.
func TestCopiedAndLoaded(t *testing.T) {
	m := image.New(crc.Make(), head.Head{Key: 3, Data: 7, Fields: 5}, 1<<20)
	var all []thing
	for i := range uint64(40) {
		r := of(i, "A="+strconv.FormatUint(i%3, 10), "B="+strconv.FormatUint(i, 10))
		all = append(all, thing{at: add(t, m, r), r: r})
	}
	m.Done()
	add(t, m, of(40, "A=0", "B=0", "C=0"))
	changed := m.Copy()
	m.Back()
	for _, x := range []*image.Image{m, m.Copy(), image.Load(m.Head(), m.Bytes(), 1<<20)} {
		areEntries(t, x, all)
		r := of(41, "A=0", "D=1")
		areEntries(t, x, append(slices.Clone(all), thing{at: add(t, x, r), r: r}))
		x.Back()
		areEntries(t, x, all)
	}
	if Len(changed) != 41 {
		t.Error(Len(changed))
	}
}

// P16.3

func TestSame(t *testing.T) {
	base := of(1, "A=1", "B=1")
	others := []api.Record{
		{}, of(2, "A=1", "B=1"), of(1), of(1, "A=1"), of(1, "B=1"), of(1, "A=1", "B=2"), of(1, "B=1", "A=1"), of(1, "A=1", "B=1", "C=1"),
		of(1, "A=1", "B=1", ""), of(1, "A=1B=1"), of(1, "A=1", "A=1", "B=1"), of(1, "A=1", "B=1", "B=1"), of(1, "", ""),
	}
	for _, change := range []func(*api.Record){
		func(r *api.Record) { r.Seq++ }, func(r *api.Record) { r.Real++ }, func(r *api.Record) { r.Mono++ }, func(r *api.Record) { r.Boot++ },
		func(r *api.Record) { r.Seq |= 1 << 63 }, func(r *api.Record) { r.Real |= 1 << 63 }, func(r *api.Record) { r.Mono |= 1 << 32 }, func(r *api.Record) { r.Boot |= 1 << 32 },
		func(r *api.Record) { r.Seq, r.Real = r.Real, r.Seq }, func(r *api.Record) { r.Mono, r.Boot = r.Boot, r.Mono },
	} {
		r := base
		change(&r)
		others = append(others, r)
	}
	for i, a := range append(others, base) {
		for k, b := range append(others, base) {
			b.Items = slices.Clone(b.Items)
			if Same(a, b) != (i == k) {
				t.Error(a, b)
			}
		}
	}
	if !Same(api.Record{Items: []string{}}, api.Record{}) || !Same(api.Record{}, api.Record{Items: []string{}}) || !Same(api.Record{}, api.Record{}) {
		t.Error("empty lists")
	}
}

// P16.4

// Of every item the entries that have it are those whose Items have it.
func TestEntriesOfItems(t *testing.T) {
	m := image.New(crc.Make(), head.Head{Key: 8, Data: 3, Fields: 2}, 60000)
	want := map[string][]uint64{}
	r := rand.New(rand.NewSource(1))
	n := 0
	for i := uint64(1); ; i++ {
		var items []string
		for k := range 8 {
			if r.Intn(k+1) == 0 {
				items = append(items, "F"+strconv.Itoa(k%3)+"="+strconv.Itoa(k))
			}
		}
		items = append(items, items[0])
		at, e := Add(m, of(i, items...))
		if e == api.ErrFile {
			break
		}
		if e != api.OK {
			t.Fatal(e)
		}
		m.Done()
		n++
		for _, s := range items[:len(items)-1] {
			want[s] = append(want[s], uint64(at))
		}
	}
	if Len(m) != n || n < 200 || len(want) != 8 {
		t.Fatal(Len(m), n, len(want))
	}
	for s, l := range want {
		if got := refs(m, s); !slices.Equal(got, l) {
			t.Error(s, len(got), len(l))
		}
		var having []uint64
		for i, r := range All(m) {
			if slices.Contains(r.Items, s) {
				place, _ := Nth(m, i)
				having = append(having, place)
			}
		}
		if !slices.Equal(having, l) {
			t.Error(s, len(having), len(l))
		}
	}
}

// Of files whose words lead anywhere nothing is promised, but that all calls end, and tell their chapter's errors.
func TestWordsThatLeadAnywhere(t *testing.T) {
	for seed := range int64(300) {
		r := rand.New(rand.NewSource(seed))
		m := image.New(crc.Make(), head.Head{Data: 1 + r.Intn(2), Fields: 1 + r.Intn(2)}, 1<<20)
		var l []int
		for i := range uint64(8) {
			l = append(l, add(t, m, of(i, "A="+strconv.FormatUint(i, 10), "B=1")))
		}
		b := m.Bytes()
		for range 1 + r.Intn(20) {
			at, x := 192+8*r.Intn((len(b)-192)/8), uint64(0)
			switch r.Intn(4) {
			case 0:
				x = r.Uint64()
			case 1:
				x = uint64(8 * r.Intn(len(b)/8+3))
			default:
				x = uint64(l[r.Intn(len(l))])
			}
			for i := range 8 {
				b[at+i] = byte(x >> (8 * i))
			}
		}
		m = image.Load(m.Head(), b, 1<<20)
		for i, at := range append(l, -8, 8, len(b)-8) {
			Get(m, uint64(at))
			Nth(m, i)
			Search(m, uint64(i))
			All(m)
			tail := m.Tail()
			if at, e := Add(m, of(uint64(i), "A=0", "A=x"+strconv.Itoa(i), "B=1")); e != api.OK && (e != api.ErrFile || at != 0 || m.Tail() > tail) {
				t.Error(seed, i, at, e)
			}
			chain.Len(m, head.Root)
		}
	}
}

// The example of the document.
func TestExample(t *testing.T) {
	m := empty(1 << 20)
	add(t, m, api.Record{Seq: 1, Items: []string{"B=1", "A=1"}})
	if l := All(m); len(l) != 1 || !alike(l[0], api.Record{Seq: 1, Items: []string{"A=1", "B=1"}}) {
		t.Error(l)
	}
}
