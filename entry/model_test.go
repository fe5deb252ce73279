package entry

import (
	"bytes"
	"encoding/binary"
	"math/rand"
	"slices"
	"strconv"
	"strings"
	"testing"

	"logbook/api"
	"logbook/crc"
	"logbook/data"
	"logbook/head"
	"logbook/image"
	"logbook/mix"
	"logbook/obj"
)

// sizes are how long the arrays of a list are.
var sizes = []int{4, 8, 16, 32, 64, 128, 256, 512, 1024}

// thing is an object of a file: data and fields have bytes, entries a record.
type thing struct {
	kind, at int
	raw      string
	r        api.Record
	// of is the place of the data object whose list an array is of; 0: it is the list of all entries.
	of int
}

// slow is the chapter, done on a list of all objects: all that refers to one is looked for.
type slow struct {
	h     head.Head
	limit int
	tail  int
	l     []thing
}

func newSlow(h head.Head, limit int) *slow {
	return &slow{h: h, limit: limit, tail: 256 + 8*h.Data + 8*h.Fields}
}

func (s *slow) copy() *slow {
	c := *s
	c.l = slices.Clone(s.l)
	return &c
}

// all tells the objects that are asked for.
func (s *slow) all(is func(thing) bool) []thing {
	var l []thing
	for _, x := range s.l {
		if is(x) {
			l = append(l, x)
		}
	}
	return l
}

// behind tells the place of the first one of some objects behind a place; 0: there is none.
func (s *slow) behind(at int, is func(thing) bool) uint64 {
	for _, x := range s.all(is) {
		if x.at > at {
			return uint64(x.at)
		}
	}
	return 0
}

func is(kind int, raw string) func(thing) bool {
	return func(x thing) bool { return x.kind == kind && x.raw == raw }
}

func isEntry(x thing) bool { return x.kind == obj.Entry }

// isArray asks for the arrays of a list.
func isArray(of int) func(thing) bool {
	return func(x thing) bool { return x.kind == obj.Array && x.of == of }
}

// isOfField asks for the data of a field.
func isOfField(field string) func(thing) bool {
	return func(x thing) bool { return x.kind == obj.Data && strings.HasPrefix(x.raw, field+"=") }
}

// isInBucket asks for objects of a kind in one bucket.
func (s *slow) isInBucket(kind int, sum uint64) func(thing) bool {
	n := uint64(s.h.Data)
	if kind == obj.Field {
		n = uint64(s.h.Fields)
	}
	return func(x thing) bool { return x.kind == kind && s.sum(x.raw)%n == sum%n }
}

func (s *slow) sum(raw string) uint64 { return mix.Hash(s.h.Key, []byte(raw)) }

// put puts an object of so many bytes; false: there is no room.
func (s *slow) put(x thing, size int) bool {
	end := (s.tail + size + 7) &^ 7
	if end > s.limit || end > 1<<20 {
		return false
	}
	x.at, s.tail = s.tail, end
	s.l = append(s.l, x)
	return true
}

func isName(s string) bool {
	return s != "" && len(s) <= 64 && s[0] > '9' && strings.Trim(s, "ABCDEFGHIJKLMNOPQRSTUVWXYZ0123456789_") == ""
}

// why tells why items may be no entry's.
func why(items []string) api.Errno {
	if len(items) == 0 {
		return api.ErrArg
	}
	if len(items) > 64 {
		return api.ErrBig
	}
	for _, x := range items {
		if len(x) > 1024 {
			return api.ErrBig
		}
		if field, _, ok := strings.Cut(x, "="); !ok || !isName(field) {
			return api.ErrName
		}
	}
	if len(strings.Join(items, "")) > 8192 {
		return api.ErrBig
	}
	return api.OK
}

// add is Add, but that what was put stays where there is no room.
func (s *slow) add(r api.Record) (int, api.Errno) {
	if e := why(r.Items); e != api.OK {
		return 0, e
	}
	r.Items = slices.Compact(slices.Sorted(slices.Values(r.Items)))
	for _, x := range r.Items {
		field, _, _ := strings.Cut(x, "=")
		if len(s.all(is(obj.Data, x))) == 0 && !s.put(thing{kind: obj.Data, raw: x}, 16+5*8+len(x)) {
			return 0, api.ErrFile
		}
		if len(s.all(is(obj.Field, field))) == 0 && !s.put(thing{kind: obj.Field, raw: field}, 16+3*8+len(field)) {
			return 0, api.ErrFile
		}
	}
	at := s.tail
	if !s.put(thing{kind: obj.Entry, r: r}, 16+5*8+8*len(r.Items)) {
		return 0, api.ErrFile
	}
	for _, x := range r.Items {
		d := s.all(is(obj.Data, x))[0]
		// The first one needs no array.
		if !s.grow(d.at, len(s.refs(x))-1) {
			return 0, api.ErrFile
		}
	}
	if !s.grow(0, len(s.all(isEntry))) {
		return 0, api.ErrFile
	}
	return at, api.OK
}

// refs tells the places of the entries that have an item.
func (s *slow) refs(raw string) []uint64 {
	var l []uint64
	for _, x := range s.all(isEntry) {
		if slices.Contains(x.r.Items, raw) {
			l = append(l, uint64(x.at))
		}
	}
	return l
}

// grow puts one more array of a list that is to have so many places, if it must.
func (s *slow) grow(of, n int) bool {
	room, arrays := 0, len(s.all(isArray(of)))
	for i := range arrays {
		room += sizes[min(i, 8)]
	}
	return n <= room || s.put(thing{kind: obj.Array, of: of}, 24+8*sizes[min(arrays, 8)])
}

// row tells the places of a list.
func (s *slow) row(of int) []uint64 {
	if of == 0 {
		var l []uint64
		for _, x := range s.all(isEntry) {
			l = append(l, uint64(x.at))
		}
		return l
	}
	for _, x := range s.l {
		if x.at == of {
			return s.refs(x.raw)[1:]
		}
	}
	return nil
}

// object tells an object's numbers and bytes, as they stand in the file.
func (s *slow) object(x thing) obj.Object {
	o := obj.Object{Kind: x.kind, Words: make([]uint64, obj.Words(x.kind)), Raw: []byte(x.raw)}
	switch x.kind {
	case obj.Array:
		n, ahead := 0, 0
		for _, y := range s.all(isArray(x.of)) {
			if y.at < x.at {
				ahead += sizes[min(n, 8)]
				n++
			}
		}
		o.Words[0] = s.behind(x.at, isArray(x.of))
		o.Items = make([]uint64, sizes[min(n, 8)])
		copy(o.Items, s.row(x.of)[ahead:])
	case obj.Entry:
		o.Words = []uint64{x.r.Seq, x.r.Real, x.r.Mono, x.r.Boot, 0}
		for _, raw := range x.r.Items {
			o.Words[4] ^= s.sum(raw)
			o.Items = append(o.Items, uint64(s.all(is(obj.Data, raw))[0].at))
		}
	case obj.Field:
		o.Words = []uint64{s.sum(x.raw), s.behind(x.at, s.isInBucket(x.kind, s.sum(x.raw))), s.behind(0, isOfField(x.raw))}
	case obj.Data:
		field, _, _ := strings.Cut(x.raw, "=")
		o.Words = []uint64{s.sum(x.raw), s.behind(x.at, s.isInBucket(x.kind, s.sum(x.raw))), s.behind(x.at, isOfField(field)), s.refs(x.raw)[0], s.behind(0, isArray(x.at))}
	}
	return o
}

// file tells all bytes of the file.
func (s *slow) file() []byte {
	b := image.New(crc.Make(), s.h, 0).Bytes()
	binary.LittleEndian.PutUint64(b[192:], s.behind(0, isArray(0)))
	for i := range s.h.Data {
		binary.LittleEndian.PutUint64(b[256+8*i:], s.behind(0, s.isInBucket(obj.Data, uint64(i))))
	}
	for i := range s.h.Fields {
		binary.LittleEndian.PutUint64(b[256+8*s.h.Data+8*i:], s.behind(0, s.isInBucket(obj.Field, uint64(i))))
	}
	for _, x := range s.l {
		b = append(b, obj.Encode(s.object(x))...)
	}
	return b
}

func alike(a, b api.Record) bool {
	return a.Seq == b.Seq && a.Real == b.Real && a.Mono == b.Mono && a.Boot == b.Boot && slices.Equal(a.Items, b.Items)
}

// areEntries looks that these are all entries, at their places.
func areEntries(t *testing.T, m *image.Image, want []thing) {
	t.Helper()
	var l []api.Record
	at := map[uint64]int{}
	for i, x := range want {
		l = append(l, x.r)
		at[uint64(x.at)] = i
	}
	if got := All(m); !slices.EqualFunc(got, l, alike) {
		t.Fatal("All", got, l)
	}
	if n := Len(m); n != len(l) {
		t.Fatal("Len", n, len(l))
	}
	for i := -3; i < len(l)+12; i++ {
		place, ok := Nth(m, i)
		if ok != (0 <= i && i < len(l)) || ok && place != uint64(want[i].at) || !ok && place != 0 {
			t.Fatal("Nth", i, place, ok)
		}
	}
	for place := range uint64(m.Tail() + 20) {
		i, is := at[place]
		r, ok := Get(m, place)
		if ok != is || ok && !alike(r, l[i]) || !ok && !alike(r, api.Record{}) {
			t.Fatal("Get", place, r, ok)
		}
	}
}

// isFound looks for entries by their Seq, if these rise.
func isFound(t *testing.T, m *image.Image, want []thing) {
	t.Helper()
	asked := []uint64{0, 1, 1 << 63, 1<<64 - 1}
	for i, x := range want {
		if i > 0 && x.r.Seq < want[i-1].r.Seq {
			return
		}
		asked = append(asked, x.r.Seq-1, x.r.Seq, x.r.Seq+1)
	}
	for _, seq := range asked {
		n := 0
		for n < len(want) && want[n].r.Seq < seq {
			n++
		}
		if k := Search(m, seq); k != n {
			t.Fatal("Search", seq, k, n)
		}
	}
}

// isLike looks that an image is as the slow one.
func isLike(t *testing.T, m *image.Image, s *slow) {
	t.Helper()
	if b := s.file(); !bytes.Equal(m.Bytes(), b) {
		t.Fatal("bytes", m.Bytes(), b)
	}
	want := s.all(isEntry)
	areEntries(t, m, want)
	isFound(t, m, want)
	for _, x := range s.l {
		if x.kind != obj.Data {
			continue
		}
		if l := slices.Collect(data.Entries(m, x.at)); !slices.Equal(l, s.refs(x.raw)) {
			t.Fatal("Entries", x, l, s.refs(x.raw))
		}
	}
}

// anyItem makes an item by chance: now and then one that may not be.
func anyItem(r *rand.Rand) string {
	field := []string{"A", "B", "AA", "_", "A1", strings.Repeat("F", 64)}[r.Intn(6)]
	switch r.Intn(50) {
	case 0:
		return []string{"", "A", "=", "=1", "a=1", "1A=1", "A-=1", field, strings.Repeat("F", 65) + "="}[r.Intn(9)]
	case 1:
		return field + "=" + strings.Repeat("x", 1020-len(field)+r.Intn(6))
	case 2:
		// Bytes that look like an entry that has the first item.
		o := obj.Object{Kind: obj.Entry, Words: make([]uint64, 5), Items: []uint64{288}}
		return "A=xxxxxx" + strings.Repeat("x", r.Intn(2)) + string(obj.Encode(o))
	}
	return field + "=" + strconv.Itoa(r.Intn(5))
}

// anyRecord makes an entry by chance; its Seq is no less than that of the one ahead, but now and then.
func anyRecord(r *rand.Rand, seq *uint64) api.Record {
	*seq += uint64(r.Intn(4))
	// These numbers may look like the begin of an entry.
	some := []uint64{0, 1, 3, 64, 72, 1 << 63, 1<<64 - 1, r.Uint64()}
	x := api.Record{Seq: *seq, Real: some[r.Intn(len(some))], Mono: some[r.Intn(len(some))], Boot: some[r.Intn(len(some))]}
	if r.Intn(300) == 0 {
		x.Seq = r.Uint64()
	}
	n := r.Intn(6)
	if r.Intn(30) == 0 {
		n = 60 + r.Intn(7)
	}
	for range n {
		x.Items = append(x.Items, anyItem(r))
	}
	return x
}

// P16.1 to P16.4

func TestStepsByChance(t *testing.T) {
	for seed := range int64(36) {
		r := rand.New(rand.NewSource(seed))
		h := head.Head{Key: r.Uint64(), Data: 1 + r.Intn(5), Fields: 1 + r.Intn(4)}
		limit := 1 << 20
		if seed%3 > 0 {
			limit = r.Intn(9000)
		}
		m, s := image.New(crc.Make(), h, limit), newSlow(h, limit)
		was, seq := s.copy(), uint64(0)
		for range 60 {
			x := anyRecord(r, &seq)
			next := s.copy()
			want, wantE := next.add(x)
			at, e := Add(m, x)
			if at != want || e != wantE {
				t.Fatal("Add", x, at, e, want, wantE)
			}
			switch e {
			case api.OK:
				s = next
			case api.ErrFile:
				s = was.copy()
			}
			isLike(t, m, s)
			switch k := r.Intn(30); {
			case k == 0:
				m.Back()
				s = was.copy()
				isLike(t, m, s)
			case k == 1:
				m = image.Load(h, m.Bytes(), limit)
				was = s.copy()
			case k == 2:
				m = m.Copy()
				was = s.copy()
			case k < 15:
				m.Done()
				was = s.copy()
			}
		}
	}
}
