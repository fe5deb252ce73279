package verify

import (
	"bytes"
	"encoding/binary"
	"math"
	"slices"
	"strings"
	"testing"

	"logbook/api"
	"logbook/crc"
	"logbook/head"
	"logbook/mix"
	"logbook/obj"
	"logbook/scan"
	"logbook/slot"
)

// one is a header as files have them; its objects begin at 304.
var one = head.Head{ID: 7, Key: 8, Data: 4, Fields: 2, Made: 9}

// thing is an object of a file that is to be made: all its words that the index has are reckoned.
type thing struct {
	kind int
	// text is that of data, and of a field.
	text string
	// seq and has are an entry's: its number, and its data.
	seq uint64
	has []*thing
	// list and size are an array's: the data whose list it stands in (nil: the list of all entries), and how long it is.
	list *thing
	size int
}

func item1(text string) *thing { return &thing{kind: obj.Data, text: text} }

func field(text string) *thing { return &thing{kind: obj.Field, text: text} }

func entryOf(seq uint64, has ...*thing) *thing { return &thing{kind: obj.Entry, seq: seq, has: has} }

func array(list *thing, size int) *thing { return &thing{kind: obj.Array, list: list, size: size} }

// made is a file that was made of things: its bytes, without a slot, and where each thing stands.
type made struct {
	h  head.Head
	b  []byte
	at map[*thing]int
}

// object is a thing as an object; the words that lead anywhere are 0.
func (x *thing) object(h head.Head, at map[*thing]int) obj.Object {
	o := obj.Object{Kind: x.kind, Words: make([]uint64, obj.Words(x.kind))}
	switch x.kind {
	case obj.Data, obj.Field:
		o.Words[0], o.Raw = mix.Hash(h.Key, []byte(x.text)), []byte(x.text)
	case obj.Entry:
		o.Words[0], o.Words[1], o.Words[2], o.Words[3] = x.seq, x.seq+1000, x.seq+2000, 3
		for _, d := range x.has {
			o.Words[4] ^= mix.Hash(h.Key, []byte(d.text))
			o.Items = append(o.Items, uint64(at[d]))
		}
	case obj.Array:
		o.Items = make([]uint64, x.size)
	}
	return o
}

// makeFile makes the file of things, which stand there in their order, with its whole index.
func makeFile(h head.Head, l []*thing) made {
	m := made{h: h, at: map[*thing]int{}, b: make([]byte, 256+8*h.Data+8*h.Fields)}
	copy(m.b, h.Encode(crc.Make()))
	end := len(m.b)
	for _, x := range l {
		m.at[x] = end
		end += obj.Size(x.object(h, m.at))
	}
	for _, x := range l {
		m.b = append(m.b, obj.Encode(x.object(h, m.at))...)
	}
	m.link(l)
	return m
}

func (m made) set(at int, n uint64) { binary.LittleEndian.PutUint64(m.b[at:], n) }

func (m made) word(at int) uint64 { return binary.LittleEndian.Uint64(m.b[at:]) }

// chained sets words so that the first one says these places, by a word of the things.
func (m made) chained(at int, from int, l []*thing) {
	for _, x := range l {
		m.set(at, uint64(m.at[x]))
		at = m.at[x] + from
	}
	m.set(at, 0)
}

func those(l []*thing, is func(*thing) bool) []*thing {
	return slices.DeleteFunc(slices.Clone(l), func(x *thing) bool { return !is(x) })
}

func fieldOf(text string) string { f, _, _ := strings.Cut(text, "="); return f }

// link sets all words of the index.
func (m made) link(l []*thing) {
	for i := range m.h.Data {
		m.chained(256+8*i, 24, those(l, func(x *thing) bool {
			return x.kind == obj.Data && m.word(m.at[x]+16)%uint64(m.h.Data) == uint64(i)
		}))
	}
	for i := range m.h.Fields {
		m.chained(256+8*m.h.Data+8*i, 24, those(l, func(x *thing) bool {
			return x.kind == obj.Field && m.word(m.at[x]+16)%uint64(m.h.Fields) == uint64(i)
		}))
	}
	entries := those(l, func(x *thing) bool { return x.kind == obj.Entry })
	m.linkList(192, nil, l, entries)
	for _, x := range l {
		switch x.kind {
		case obj.Field:
			m.chained(m.at[x]+32, 32, those(l, func(d *thing) bool { return d.kind == obj.Data && fieldOf(d.text) == x.text }))
		case obj.Data:
			own := those(entries, func(e *thing) bool { return slices.Contains(e.has, x) })
			if len(own) > 0 {
				m.set(m.at[x]+40, uint64(m.at[own[0]]))
				own = own[1:]
			}
			m.linkList(m.at[x]+48, x, l, own)
		}
	}
}

// linkList lays places into the arrays of a list, and links these.
func (m made) linkList(at int, list *thing, l, places []*thing) {
	arrays := those(l, func(x *thing) bool { return x.kind == obj.Array && x.list == list })
	m.chained(at, 16, arrays)
	for _, a := range arrays {
		for i := range a.size {
			if len(places) == 0 {
				return
			}
			m.set(m.at[a]+24+8*i, uint64(m.at[places[0]]))
			places = places[1:]
		}
	}
}

// slotOf tells a slot that tells of all of a file.
func (m made) slotOf(l []*thing) slot.Slot {
	s := slot.Slot{Turn: 1, Tail: uint64(len(m.b)), State: slot.Online}
	for _, x := range l {
		if x.kind != obj.Entry {
			continue
		}
		if s.Count == 0 {
			s.First = x.seq
		}
		s.Count, s.Last = s.Count+1, x.seq
	}
	return s
}

// with tells a file's bytes with slots.
func (m made) with(l ...slot.Slot) []byte {
	b := slices.Clone(m.b)
	for _, s := range l {
		copy(b[s.Place():], s.Encode(crc.Make()))
	}
	return b
}

// whole tells the bytes of the file of things, with a slot.
func whole(h head.Head, l []*thing) []byte {
	m := makeFile(h, l)
	return m.with(m.slotOf(l))
}

// cast is a file's things by their names.
type cast struct {
	a1, a2, b1, fa, fb     *thing
	e1, e2, e3, e4, e5, e6 *thing
	all, all2, a1s, b1s    *thing
}

// some are things of every kind: six entries, of which five have A=1, five B=1, and one A=2. Fields stand ahead of their data and behind, arrays anywhere.
func some() (cast, []*thing) {
	c := cast{a1: item1("A=1"), a2: item1("A=2"), b1: item1("B=1"), fa: field("A"), fb: field("B")}
	c.e1, c.e2, c.e3 = entryOf(5, c.a1), entryOf(6, c.a1, c.b1), entryOf(8, c.a1, c.b1)
	c.e4, c.e5, c.e6 = entryOf(9, c.a1, c.b1), entryOf(10, c.a2, c.b1), entryOf(20, c.a1, c.b1)
	c.all, c.all2, c.a1s, c.b1s = array(nil, 4), array(nil, 8), array(c.a1, 4), array(c.b1, 4)
	return c, []*thing{c.fb, c.a1, c.all, c.e1, c.b1, c.a1s, c.e2, c.e3, c.a2, c.fa, c.all2, c.e4, c.e5, c.b1s, c.e6}
}

// found is what is found in some.
var found = Report{Data: 3, Fields: 2, Entries: 6, Arrays: 4, First: 5, Last: 20, State: slot.Online}

func isRight(t *testing.T, what any, b []byte, want Report) {
	t.Helper()
	if r, e := Check(crc.Make(), b); e != api.OK || r != want {
		t.Error("Check", what, r, e)
	}
}

func isBad(t *testing.T, what any, b []byte) {
	t.Helper()
	if r, e := Check(crc.Make(), b); e != api.ErrBad || r != (Report{}) {
		t.Error("Check", what, r, e)
	}
}

// P19.1

func TestCheck(t *testing.T) {
	_, l := some()
	isRight(t, "some", whole(one, l), found)
	archived := makeFile(one, l)
	s := archived.slotOf(l)
	s.State = slot.Archived
	want := found
	want.State = 2
	isRight(t, "archived", archived.with(s), want)
}

func TestCheckOfEachHeader(t *testing.T) {
	for _, data := range []int{1, 2, 3, 7, 255, 256} {
		for _, fields := range []int{1, 2, 255, 256} {
			_, l := some()
			isRight(t, data, whole(head.Head{Key: uint64(data * fields), Data: data, Fields: fields}, l), found)
			isRight(t, data, whole(head.Head{Data: data, Fields: fields}, nil), Report{State: 1})
		}
	}
}

// The first entry's number may be any, and the last one's.
func TestCheckOfNumbers(t *testing.T) {
	for _, l := range [][]uint64{{0}, {0, 1}, {1, math.MaxUint64}, {math.MaxUint64}, {1 << 63}, {0, 1<<63 - 1, 1 << 63, math.MaxUint64}} {
		a := item1("A=1")
		things := []*thing{a, field("A"), array(nil, 4)}
		for _, n := range l {
			things = append(things, entryOf(n, a))
		}
		want := Report{Data: 1, Fields: 1, Entries: len(l), Arrays: 1, First: l[0], Last: l[len(l)-1], State: 1}
		if len(l) > 1 {
			things, want.Arrays = append(things, array(a, 4)), 2
		}
		isRight(t, l, whole(one, things), want)
	}
}

// Lists that fill their arrays, and of a place more or less.
func TestCheckOfLongLists(t *testing.T) {
	for _, n := range []int{1, 2, 4, 5, 6, 12, 13, 28, 29, 60, 1020, 1021, 2044, 2045, 3068, 3069, 3070, 4100} {
		a := item1("A=1")
		l := []*thing{a, field("A")}
		for i := range n {
			l = append(l, entryOf(uint64(i), a))
		}
		arrays := 0
		// The list of the item has one place less than that of all.
		for _, x := range []struct {
			list   *thing
			places int
		}{{nil, n}, {a, n - 1}} {
			for size := 4; x.places > 0; size = min(2*size, 1024) {
				l = append(l, array(x.list, size))
				x.places -= size
				arrays++
			}
		}
		want := Report{Data: 1, Fields: 1, Entries: n, Arrays: arrays, Last: uint64(n - 1), State: 1}
		isRight(t, n, whole(one, l), want)
		// One more, of whatever list, is more than is needed.
		for size := 4; size <= 1024; size *= 2 {
			isBad(t, n, whole(one, append(slices.Clone(l), array(nil, size))))
			isBad(t, n, whole(one, append(slices.Clone(l), array(a, size))))
		}
	}
}

// header, slot and tail

func TestCheckOfEachCut(t *testing.T) {
	_, l := some()
	b := whole(one, l)
	for n := range len(b) {
		isBad(t, n, b[:n])
	}
	// What stands behind the tail is not asked.
	for _, more := range []string{"\x00", "12345678", strings.Repeat("x", 1000), string(b)} {
		isRight(t, "more", append(slices.Clone(b), more...), found)
	}
	for n := range 305 {
		isBad(t, n, make([]byte, n))
		isBad(t, n, bytes.Repeat([]byte{255}, n))
	}
	isBad(t, "nothing", nil)
}

func TestCheckOfAWrongHeader(t *testing.T) {
	_, l := some()
	b := whole(one, l)
	for at := range 64 {
		for bit := range 8 {
			x := slices.Clone(b)
			x[at] ^= 1 << bit
			isBad(t, at, x)
		}
	}
}

// A slot may tell of nothing, wherever that ends: without a header there is no file.
func TestCheckWithoutAHeader(t *testing.T) {
	for tail := uint64(0); tail < 1000; tail += 8 {
		s := slot.Slot{Turn: 1, Tail: tail, State: slot.Online}
		m := made{b: make([]byte, 1000)}
		isBad(t, tail, m.with(s))
		if r, e := Loose(crc.Make(), m.with(s)); e != api.ErrBad || r != (Report{}) {
			t.Error(tail, r, e)
		}
	}
	// By no table all sums are 0, which those of a file are not.
	_, l := some()
	if r, e := Check(nil, whole(one, l)); e != api.ErrBad || r != (Report{}) {
		t.Error(r, e)
	}
	if r, e := Loose(nil, whole(one, l)); e != api.ErrBad || r != (Report{}) {
		t.Error(r, e)
	}
}

// Of the two slots the one of the greater Turn tells.
func TestCheckOfSlots(t *testing.T) {
	_, l := some()
	m := makeFile(one, l)
	right := m.slotOf(l)
	wrong := right
	wrong.Count++
	for _, x := range []struct {
		right, wrong uint64
		is           bool
	}{{1, 2, false}, {2, 1, true}, {3, 2, true}, {2, 3, false}, {math.MaxUint64, 2, true}, {2, math.MaxUint64, false}} {
		right.Turn, wrong.Turn = x.right, x.wrong
		b := m.with(right, wrong)
		if x.is {
			isRight(t, x, b, found)
		} else {
			isBad(t, x, b)
		}
		// One that is none doesn't count.
		b[wrong.Place()+3] ^= 1
		isRight(t, x, b, found)
		b[right.Place()+3] ^= 1
		isBad(t, x, b)
	}
	isBad(t, "no slot", m.b)
}

func TestCheckOfEachBitOfTheSlot(t *testing.T) {
	_, l := some()
	b := whole(one, l)
	for at := 128; at < 192; at++ {
		for bit := range 8 {
			x := slices.Clone(b)
			x[at] ^= 1 << bit
			isBad(t, at, x)
		}
	}
	// The other slot is none, whatever stands there; nor has the rest of the root's sector a meaning.
	for at := range b[:256] {
		if at < 64 || 128 <= at && at < 200 {
			continue
		}
		b[at] ^= byte(at) | 1
	}
	isRight(t, "the rest", b, found)
}

func TestCheckOfTails(t *testing.T) {
	_, l := some()
	m := makeFile(one, l)
	s := m.slotOf(l)
	for _, tail := range []uint64{0, 8, 64, 192, 256, 296, 304, 312, s.Tail - 8, s.Tail + 8, 1 << 20, 1 << 32, 1<<32 + s.Tail, 1 << 63, 1<<63 + s.Tail, math.MaxUint64 - 7} {
		s.Tail = tail
		isBad(t, tail, m.with(s))
		x := m.with(s)
		isBad(t, tail, append(x, make([]byte, 1000)...))
		isBad(t, tail, append(x, x...))
	}
	// Without entries.
	m = makeFile(one, nil)
	s = slot.Slot{Turn: 2, Tail: 304, State: 2}
	isRight(t, 304, m.with(s), Report{State: 2})
	isRight(t, 304, append(m.with(s), 1, 2, 3), Report{State: 2})
	for tail := uint64(0); tail < 1000; tail += 8 {
		s.Tail = tail
		if tail != 304 {
			isBad(t, tail, append(m.with(s), make([]byte, 1000)...))
		}
	}
}

// All of the slot, of a file with entries and of one without.
func TestCheckOfWrongSlots(t *testing.T) {
	_, l := some()
	for _, things := range [][]*thing{l, nil} {
		m := makeFile(one, things)
		right := m.slotOf(things)
		for _, n := range []uint64{0, 1, 4, 5, 6, 7, 19, 20, 21, 1 << 32, 1<<32 + 5, 1<<32 + 6, 1<<32 + 20, math.MaxUint64} {
			for _, change := range []func(s *slot.Slot) bool{
				func(s *slot.Slot) bool { was := s.Count; s.Count = n; return was == n },
				func(s *slot.Slot) bool { was := s.First; s.First = n; return was == n },
				func(s *slot.Slot) bool { was := s.Last; s.Last = n; return was == n },
			} {
				s := right
				if !change(&s) {
					isBad(t, s, m.with(s))
				}
			}
		}
		// Of a Turn and a State nothing is asked.
		right.Turn, right.State = 1<<63+1, 2
		want := Report{State: 2}
		if things != nil {
			want = found
			want.State = 2
		}
		isRight(t, right, m.with(right), want)
	}
}

// objects

// Each object is made none, in each of its first bytes.
func TestCheckOfObjectsThatAreNone(t *testing.T) {
	c, l := some()
	m := makeFile(one, l)
	s := m.slotOf(l)
	for _, x := range l {
		at := m.at[x]
		for _, kind := range []uint64{0, 5, 1 << 32, 1<<32 + uint64(x.kind), math.MaxUint64} {
			bad := made{h: one, b: slices.Clone(m.b)}
			bad.set(at, kind)
			isBad(t, kind, bad.with(s))
		}
		for _, size := range []uint64{0, 8, 16, m.word(at+8) + 8, m.word(at+8) + 1<<32, math.MaxUint64} {
			bad := made{h: one, b: slices.Clone(m.b)}
			bad.set(at+8, size)
			isBad(t, size, bad.with(s))
		}
	}
	// What fills an object up is noughts.
	for _, x := range []*thing{c.a1, c.fa, c.fb} {
		n := 8 - len(x.text)
		end := m.at[x] + obj.Size(x.object(one, m.at))
		for i := range n {
			bad := made{h: one, b: slices.Clone(m.b)}
			bad.b[end-1-i] = 1
			isBad(t, x.text, bad.with(s))
		}
	}
}

// In place of each object stands another one.
func TestCheckOfOtherKinds(t *testing.T) {
	_, l := some()
	for i := range l {
		for _, x := range []*thing{item1("A=3"), item1("A=1"), item1("C=1"), field("A"), field("B"), field("C"), array(nil, 4), array(nil, 8)} {
			bad := slices.Clone(l)
			bad[i] = x
			b := whole(one, bad)
			r, ok := slowCheck(b)
			if ok && l[i].kind != x.kind {
				t.Error("it is not asked", i, x)
			}
			if ok {
				isRight(t, x, b, r)
			} else {
				isBad(t, x, b)
			}
		}
	}
}

// Each object is left out, and each stands there twice.
func TestCheckOfTooFewAndTooMany(t *testing.T) {
	_, l := some()
	for i, x := range l {
		fewer := slices.Delete(slices.Clone(l), i, i+1)
		b := whole(one, fewer)
		if r, ok := slowCheck(b); ok {
			// An entry may be missing, if all arrays are needed without it.
			if x.kind != obj.Entry {
				t.Error("left out", i)
			}
			isRight(t, i, b, r)
		} else {
			isBad(t, i, b)
		}
		twice := *x
		for at := range len(l) + 1 {
			isBad(t, i, whole(one, slices.Insert(slices.Clone(l), at, &twice)))
		}
	}
}

// data and fields

// Data and fields of texts, some of which may not be.
func TestCheckOfNames(t *testing.T) {
	for _, x := range []struct {
		data, field string
		is          bool
	}{
		{"A=", "A", true}, {"A==", "A", true}, {"_=1", "_", true}, {"A9_=\x00\xff\n", "A9_", true},
		{strings.Repeat("A", 64) + "=", strings.Repeat("A", 64), true},
		{"A=" + strings.Repeat("x", 1022), "A", true},
		{"a=1", "a", false}, {"9A=1", "9A", false}, {"A B=1", "A B", false}, {"\xc3\x84=1", "\xc3\x84", false},
		{"A\x00=1", "A\x00", false}, {"A", "A", false}, {"A1", "A1", false}, {"=1", "=", false}, {"=", "=", false},
		{strings.Repeat("A", 65) + "=", strings.Repeat("A", 64), false},
		{"A=1", "a", false}, {"A=1", "A=", false}, {"A=1", "A=1", false}, {"A=1", "B", false}, {"A=1", "AA", false}, {"AA=1", "A", false},
	} {
		d := item1(x.data)
		b := whole(one, []*thing{d, field(x.field), entryOf(1, d), array(nil, 4)})
		if x.is {
			isRight(t, x.data, b, Report{Data: 1, Fields: 1, Entries: 1, Arrays: 1, First: 1, Last: 1, State: 1})
		} else {
			isBad(t, x.data, b)
		}
		// Beside right ones.
		a := item1("ZZ=1")
		has := []*thing{a, d}
		slices.SortFunc(has, func(x, y *thing) int { return strings.Compare(x.text, y.text) })
		b = whole(one, []*thing{a, field("ZZ"), d, field(x.field), entryOf(1, has...), array(nil, 4)})
		if x.is {
			isRight(t, x.data, b, Report{Data: 2, Fields: 2, Entries: 1, Arrays: 1, First: 1, Last: 1, State: 1})
		} else {
			isBad(t, x.data, b)
		}
	}
}

// Two data are the same, but all else of the file is as it should be.
func TestCheckOfTwice(t *testing.T) {
	a, again := item1("A=1"), item1("A=1")
	isBad(t, "data", whole(one, []*thing{a, again, field("A"), entryOf(1, a), entryOf(2, again), array(nil, 4)}))
	again.text = "A=2"
	l := []*thing{a, again, field("A"), entryOf(1, a), entryOf(2, again), array(nil, 4)}
	isRight(t, "data", whole(one, l), Report{Data: 2, Fields: 1, Entries: 2, Arrays: 1, First: 1, Last: 2, State: 1})
	// Two fields have the same data.
	isBad(t, "fields", whole(one, slices.Insert(slices.Clone(l), 3, field("A"))))
	// Each has one of two data.
	m := makeFile(one, append(l, field("A")))
	m.set(m.at[l[2]]+32, uint64(m.at[a]))
	m.set(m.at[a]+32, 0)
	m.set(m.at[l[len(l)-1]]+32, uint64(m.at[again]))
	isBad(t, "fields", m.with(m.slotOf(l)))
}

// Sums that are others, but stand in their bucket, and in the entries' Xor.
func TestCheckOfSums(t *testing.T) {
	for _, by := range []uint64{1, 4, 8, 1 << 32, 1 << 63, math.MaxUint64} {
		a := item1("A=1")
		f := field("A")
		l := []*thing{a, f, entryOf(1, a), array(nil, 4)}
		isRight(t, by, whole(one, l), Report{Data: 1, Fields: 1, Entries: 1, Arrays: 1, First: 1, Last: 1, State: 1})
		m := makeFile(one, l)
		m.set(m.at[a]+16, m.word(m.at[a]+16)+by)
		m.link(l)
		isBad(t, by, m.with(m.slotOf(l)))
		e := m.at[l[2]]
		m.set(e+48, m.word(m.at[a]+16))
		isBad(t, by, m.with(m.slotOf(l)))
		m = makeFile(one, l)
		m.set(m.at[f]+16, m.word(m.at[f]+16)+by)
		m.link(l)
		isBad(t, by, m.with(m.slotOf(l)))
	}
	// By another key.
	_, l := some()
	m := makeFile(one, l)
	h := one
	h.Key++
	copy(m.b, h.Encode(crc.Make()))
	isBad(t, "key", m.with(m.slotOf(l)))
}

// A field without data, and data without a field.
func TestCheckOfFields(t *testing.T) {
	_, l := some()
	for at := range len(l) + 1 {
		isBad(t, "no data", whole(one, slices.Insert(slices.Clone(l), at, field("C"))))
	}
	a, b := item1("A=1"), item1("B=1")
	isBad(t, "no field", whole(one, []*thing{a, entryOf(1, a), array(nil, 4)}))
	isBad(t, "no field", whole(one, []*thing{a, b, field("A"), entryOf(1, a, b), array(nil, 4)}))
	isBad(t, "no field", whole(one, []*thing{a, b, field("B"), entryOf(1, a, b), array(nil, 4)}))
	isRight(t, "fields", whole(one, []*thing{a, b, field("B"), field("A"), entryOf(1, a, b), array(nil, 4)}), Report{Data: 2, Fields: 2, Entries: 1, Arrays: 1, First: 1, Last: 1, State: 1})
}

// words

// Each word of a bucket, a field, or an object in them is each place of the file.
func TestCheckOfEachWord(t *testing.T) {
	h := head.Head{Data: 2, Fields: 1}
	_, l := some()
	m := makeFile(h, l)
	words := []int{192, 256, 264, 272}
	places := []uint64{0, 1, 8, 192, 256, 272, 280, 1 << 20, 1 << 32, 1 << 63, math.MaxUint64 - 7, math.MaxUint64}
	for _, x := range l {
		at := m.at[x]
		places = append(places, uint64(at), uint64(at)+8, 1<<32+uint64(at), 1<<63+uint64(at))
		switch x.kind {
		case obj.Data:
			words = append(words, at+16, at+24, at+32, at+40, at+48)
		case obj.Field:
			words = append(words, at+16, at+24, at+32)
		case obj.Entry:
			words = append(words, at+48)
			for i := range x.has {
				words = append(words, at+56+8*i)
			}
		case obj.Array:
			for i := range x.size + 1 {
				words = append(words, at+16+8*i)
			}
		}
	}
	places = append(places, uint64(len(m.b)), uint64(len(m.b))+8)
	for _, at := range words {
		was := m.word(at)
		for _, n := range places {
			if n == was {
				continue
			}
			m.set(at, n)
			isBad(t, at, m.with(m.slotOf(l)))
		}
		m.set(at, was)
	}
	// The clocks and the boot may be any.
	for _, x := range l {
		if x.kind == obj.Entry {
			m.set(m.at[x]+24, uint64(math.MaxUint64))
			m.set(m.at[x]+32, 0)
			m.set(m.at[x]+40, 1<<63)
		}
	}
	isRight(t, "clocks", m.with(m.slotOf(l)), found)
}

// Words that say things in another order than that in which they stand, in a ring, or fewer of them.
func TestCheckOfOrders(t *testing.T) {
	h := head.Head{Data: 1, Fields: 1}
	a, b, c := item1("A=1"), item1("A=2"), item1("A=3")
	fa, fb, b1 := field("A"), field("B"), item1("B=1")
	l := []*thing{a, fa, b, c, fb, b1, entryOf(1, a, b, c, b1), array(nil, 4)}
	want := Report{Data: 4, Fields: 2, Entries: 1, Arrays: 1, First: 1, Last: 1, State: 1}
	for _, x := range []struct {
		what     string
		at, from func(m made) int
		right    []*thing
	}{
		{"bucket of data", func(made) int { return 256 }, func(made) int { return 24 }, []*thing{a, b, c, b1}},
		{"bucket of fields", func(made) int { return 264 }, func(made) int { return 24 }, []*thing{fa, fb}},
		{"data of a field", func(m made) int { return m.at[fa] + 32 }, func(made) int { return 32 }, []*thing{a, b, c}},
	} {
		m := makeFile(h, l)
		isRight(t, x.what, m.with(m.slotOf(l)), want)
		for _, p := range permutations(x.right) {
			m := makeFile(h, l)
			m.chained(x.at(m), x.from(m), p)
			if slices.Equal(p, x.right) {
				isRight(t, x.what, m.with(m.slotOf(l)), want)
			} else {
				isBad(t, x.what, m.with(m.slotOf(l)))
			}
			// The last one leads back: a ring.
			for _, back := range p {
				m.set(m.at[p[len(p)-1]]+x.from(m), uint64(m.at[back]))
				isBad(t, x.what, m.with(m.slotOf(l)))
			}
			// Fewer of them.
			m.chained(x.at(m), x.from(m), p[1:])
			isBad(t, x.what, m.with(m.slotOf(l)))
			m.chained(x.at(m), x.from(m), p[:len(p)-1])
			isBad(t, x.what, m.with(m.slotOf(l)))
		}
	}
}

func permutations(l []*thing) [][]*thing {
	if len(l) == 0 {
		return [][]*thing{nil}
	}
	var all [][]*thing
	for i, x := range l {
		for _, p := range permutations(slices.Delete(slices.Clone(l), i, i+1)) {
			all = append(all, append([]*thing{x}, p...))
		}
	}
	return all
}

// entries

func TestCheckOfItems(t *testing.T) {
	a, b, c := item1("A=1"), item1("A=2"), item1("B=1")
	fa, fb := field("A"), field("B")
	all := entryOf(1, a, b, c)
	for _, x := range []struct {
		has []*thing
		is  bool
	}{
		{[]*thing{a}, true}, {[]*thing{a, b}, true}, {[]*thing{a, c}, true}, {[]*thing{a, b, c}, true},
		{[]*thing{b, a}, false}, {[]*thing{c, a}, false}, {[]*thing{a, c, b}, false}, {[]*thing{a, a}, false},
		{[]*thing{a, b, b}, false}, {[]*thing{a, b, a}, false}, {[]*thing{fa}, false}, {[]*thing{a, fa}, false}, {[]*thing{all}, false},
	} {
		e := entryOf(2, x.has...)
		l := []*thing{c, b, fb, a, fa, all, e, array(nil, 4)}
		arrays := 1
		for _, d := range []*thing{a, b, c} {
			if slices.Contains(x.has, d) {
				l, arrays = append(l, array(d, 4)), arrays+1
			}
		}
		m := makeFile(one, l)
		if x.is {
			isRight(t, x.has, m.with(m.slotOf(l)), Report{Data: 3, Fields: 2, Entries: 2, Arrays: arrays, First: 1, Last: 2, State: 1})
		} else {
			isBad(t, x.has, m.with(m.slotOf(l)))
		}
	}
}

// Rising is by the items' bytes, wherever they stand.
func TestCheckOfRisingItems(t *testing.T) {
	var has, l []*thing
	for _, s := range []string{"A=", "A=\x00", "A=1", "A=10", "A=9", "A=\x80", "A=\xff", "AA=", "A_="} {
		has = append(has, item1(s))
	}
	l = append(append(l, has...), field("A"), field("AA"), field("A_"))
	slices.Reverse(l)
	l = append(l, entryOf(1, has...), array(nil, 4))
	want := Report{Data: 9, Fields: 3, Entries: 1, Arrays: 1, First: 1, Last: 1, State: 1}
	isRight(t, "rising", whole(one, l), want)
	for i := range len(has) - 1 {
		has[i], has[i+1] = has[i+1], has[i]
		isBad(t, i, whole(one, l))
		has[i], has[i+1] = has[i+1], has[i]
	}
	isRight(t, "rising", whole(one, l), want)
}

// Items stand ahead of the entry.
func TestCheckOfItemsBehind(t *testing.T) {
	a, b := item1("A=1"), item1("A=2")
	f, e, all := field("A"), entryOf(1, a, b), array(nil, 4)
	want := Report{Data: 2, Fields: 1, Entries: 1, Arrays: 1, First: 1, Last: 1, State: 1}
	for _, l := range permutations([]*thing{a, b, f, e, all}) {
		i := slices.Index(l, e)
		if slices.Index(l, a) < i && slices.Index(l, b) < i {
			isRight(t, i, whole(one, l), want)
		} else {
			isBad(t, i, whole(one, l))
		}
	}
}

// An item whose bytes look like data, which an entry may read, though none of the data stands there.
func TestCheckOfDataWithinAnItem(t *testing.T) {
	a := item1("A=1")
	within := obj.Encode(a.object(one, nil))
	b := item1("B=234567" + string(within))
	e := entryOf(1, a, b)
	l := []*thing{a, b, field("A"), field("B"), e, array(nil, 4)}
	m := makeFile(one, l)
	isRight(t, "within", m.with(m.slotOf(l)), Report{Data: 2, Fields: 2, Entries: 1, Arrays: 1, First: 1, Last: 1, State: 1})
	at := m.at[b] + 64
	if o, _, ok := obj.Decode(m.b, at); !ok || string(o.Raw) != "A=1" {
		t.Fatal(o)
	}
	// The entry is one of A=1 still, by its text and its sum.
	m.set(m.at[e]+56, uint64(at))
	isBad(t, "within", m.with(m.slotOf(l)))
	// A=1 has another entry, so that all else is right; with the sum of what can be read, and with that of what is there.
	only, other := entryOf(1, b), entryOf(2, a)
	l = []*thing{a, b, field("A"), field("B"), only, other, array(nil, 4)}
	m = makeFile(one, l)
	want := Report{Data: 2, Fields: 2, Entries: 2, Arrays: 1, First: 1, Last: 2, State: 1}
	isRight(t, "other", m.with(m.slotOf(l)), want)
	again := item1("A=1")
	only.has = []*thing{again, b}
	m = makeFile(one, l)
	m.set(m.at[only]+56, uint64(at))
	isBad(t, "within", m.with(m.slotOf(l)))
	m.set(m.at[only]+48, m.word(m.at[b]+16))
	isBad(t, "within", m.with(m.slotOf(l)))
	if items, ok := scan.Items(m.b, 304, m.at[only], only.object(one, map[*thing]int{again: at, b: m.at[b]})); !ok || items[0] != "A=1" {
		t.Error(items, ok)
	}
	// An array within an item is none of a list's.
	all := obj.Encode(obj.Object{Kind: obj.Array, Words: []uint64{0}, Items: []uint64{0, 0, 0, 0}})
	c := item1("C=234567" + string(all))
	e = entryOf(1, c)
	l = []*thing{c, field("C"), e, array(nil, 4)}
	m = makeFile(one, l)
	isRight(t, "array", m.with(m.slotOf(l)), Report{Data: 1, Fields: 1, Entries: 1, Arrays: 1, First: 1, Last: 1, State: 1})
	m.set(192, uint64(m.at[c]+64))
	isBad(t, "array", m.with(m.slotOf(l)))
}

func TestCheckOfXor(t *testing.T) {
	c, l := some()
	m := makeFile(one, l)
	for _, e := range []*thing{c.e1, c.e3, c.e6} {
		was := m.word(m.at[e] + 48)
		for bit := range 64 {
			m.set(m.at[e]+48, was^1<<bit)
			isBad(t, bit, m.with(m.slotOf(l)))
		}
		m.set(m.at[e]+48, was)
	}
	isRight(t, "all", m.with(m.slotOf(l)), found)
}

func TestCheckOfSeqs(t *testing.T) {
	for _, x := range []struct {
		l  []uint64
		is bool
	}{
		{[]uint64{1, 2, 3}, true}, {[]uint64{0, 1, 1 << 63}, true}, {[]uint64{1, 1 << 40, math.MaxUint64}, true},
		{[]uint64{1, 1, 2}, false}, {[]uint64{1, 2, 2}, false}, {[]uint64{2, 1, 3}, false}, {[]uint64{1, 3, 2}, false},
		{[]uint64{0, 0, 1}, false}, {[]uint64{1 << 63, 1, 2}, false}, {[]uint64{1, math.MaxUint64, 2}, false},
		{[]uint64{1, 1 << 63, 1}, false}, {[]uint64{1, math.MaxUint64, math.MaxUint64}, false},
	} {
		a := item1("A=1")
		l := []*thing{a, field("A"), array(nil, 4), array(a, 4)}
		for _, n := range x.l {
			l = append(l, entryOf(n, a))
		}
		if x.is {
			isRight(t, x.l, whole(one, l), Report{Data: 1, Fields: 1, Entries: 3, Arrays: 2, First: x.l[0], Last: x.l[2], State: 1})
		} else {
			isBad(t, x.l, whole(one, l))
		}
	}
}

// lists

// Data that no entry has.
func TestCheckOfDataWithoutEntries(t *testing.T) {
	isBad(t, "alone", whole(one, []*thing{item1("A=1"), field("A")}))
	_, l := some()
	for at := range len(l) + 1 {
		isBad(t, at, whole(one, slices.Insert(slices.Clone(l), at, item1("A=3"))))
	}
}

// Arrays of other sizes have the same places.
func TestCheckOfSizes(t *testing.T) {
	c, l := some()
	right := map[*thing]int{c.all: 4, c.all2: 8, c.a1s: 4, c.b1s: 4}
	for x, size := range right {
		for n := 1; n <= 20; n++ {
			x.size = n
			if n != size {
				isBad(t, n, whole(one, l))
			}
		}
		x.size = 1024
		isBad(t, size, whole(one, l))
		x.size = size
	}
	isRight(t, "all", whole(one, l), found)
}

// An array stands there that is in no list, or one too few is there.
func TestCheckOfArraysAlone(t *testing.T) {
	_, l := some()
	for _, size := range []int{1, 4, 8, 1024} {
		for at := range len(l) + 1 {
			// Its list is one of an item that isn't there.
			isBad(t, at, whole(one, slices.Insert(slices.Clone(l), at, array(item1("A=1"), size))))
		}
	}
	isBad(t, "alone", whole(one, []*thing{array(item1("A=1"), 4)}))
	isBad(t, "root", whole(one, []*thing{array(nil, 4)}))
}

// An array that stands in two lists counts twice, so that another one may be in none.
func TestCheckOfASharedArray(t *testing.T) {
	a, b := item1("A=1"), item1("B=1")
	as, bs := array(a, 4), array(b, 4)
	l := []*thing{a, b, field("A"), field("B"), entryOf(1, a, b), entryOf(2, a, b), entryOf(3, a, b), array(nil, 4), as, bs}
	want := Report{Data: 2, Fields: 2, Entries: 3, Arrays: 3, First: 1, Last: 3, State: 1}
	m := makeFile(one, l)
	isRight(t, "each its own", m.with(m.slotOf(l)), want)
	m.set(m.at[b]+48, uint64(m.at[as]))
	isRight(t, "shared", m.with(m.slotOf(l)), want)
	// Whatever the other one has.
	m.set(m.at[bs]+16, 1)
	m.set(m.at[bs]+24, 1<<40)
	isRight(t, "shared", m.with(m.slotOf(l)), want)
	// But not, if it isn't there, nor if there are two more.
	m = makeFile(one, l[:len(l)-1])
	m.set(m.at[b]+48, uint64(m.at[as]))
	isBad(t, "shared", m.with(m.slotOf(l)))
	l = append(l, array(item1("A=1"), 4))
	m = makeFile(one, l)
	m.set(m.at[b]+48, uint64(m.at[as]))
	isBad(t, "shared", m.with(m.slotOf(l)))
}

// Of two arrays the second stands ahead of the first: the places don't rise.
func TestCheckOfArraysThatFall(t *testing.T) {
	a := item1("A=1")
	first, second, own := array(nil, 4), array(nil, 8), array(a, 4)
	l := []*thing{a, field("A"), second, first, own}
	for i := range uint64(5) {
		l = append(l, entryOf(i, a))
	}
	m := makeFile(one, l)
	// makeFile takes them as they stand: they are linked the other way, with their places.
	var places []uint64
	for _, x := range l[5:] {
		places = append(places, uint64(m.at[x]))
	}
	for at, list := range map[*thing][]uint64{first: places[:4], second: places[4:]} {
		for i := range at.size {
			n := uint64(0)
			if i < len(list) {
				n = list[i]
			}
			m.set(m.at[at]+24+8*i, n)
		}
	}
	m.chained(192, 16, []*thing{first, second})
	isBad(t, "falling", m.with(m.slotOf(l)))
	l[2], l[3] = first, second
	isRight(t, "rising", whole(one, l), Report{Data: 1, Fields: 1, Entries: 5, Arrays: 3, Last: 4, State: 1})
}

// A list's arrays lead in a ring, or the root says one though there is no entry.
func TestCheckOfRings(t *testing.T) {
	c, l := some()
	m := makeFile(one, l)
	s := m.slotOf(l)
	for _, from := range []*thing{c.all, c.all2, c.a1s, c.b1s} {
		was := m.word(m.at[from] + 16)
		for _, to := range []*thing{c.all, c.all2, c.a1s, c.b1s} {
			if uint64(m.at[to]) != was {
				m.set(m.at[from]+16, uint64(m.at[to]))
				isBad(t, "ring", m.with(s))
			}
		}
		m.set(m.at[from]+16, was)
	}
	// Words of a file that has nothing.
	m = makeFile(one, nil)
	for _, n := range []uint64{1, 8, 192, 304, math.MaxUint64} {
		for _, at := range []int{192, 256, 288} {
			x := made{h: one, b: slices.Clone(m.b)}
			x.set(at, n)
			isBad(t, n, x.with(m.slotOf(nil)))
		}
	}
}

// Entries in another order, one twice, and one for another, in each list.
func TestCheckOfOrdersInLists(t *testing.T) {
	c, l := some()
	m := makeFile(one, l)
	s := m.slotOf(l)
	for _, a := range []*thing{c.all, c.all2, c.a1s, c.b1s} {
		for i := range a.size {
			for j := range a.size {
				at, other := m.at[a]+24+8*i, m.at[a]+24+8*j
				x, y := m.word(at), m.word(other)
				if x == y {
					continue
				}
				m.set(at, y)
				isBad(t, "twice", m.with(s))
				m.set(other, x)
				isBad(t, "another order", m.with(s))
				m.set(at, x)
				m.set(other, y)
			}
		}
	}
	isRight(t, "all", m.with(s), found)
}

// What is handed in is left as it is, with what stands behind it.
func TestMemory(t *testing.T) {
	_, l := some()
	b := append(whole(one, l), "spare room"...)
	want := slices.Clone(b)
	table := crc.Make()
	for _, n := range []int{0, 63, 192, 304, 500, len(b) - 10} {
		Check(table, b[:n])
		Loose(table, b[:n])
		if !bytes.Equal(b, want) {
			t.Fatal("changed", n)
		}
	}
	if *table != *crc.Make() {
		t.Error("the table is another")
	}
	// Asked once more, the answer is the same.
	for range 3 {
		isRight(t, "again", b, found)
	}
}
