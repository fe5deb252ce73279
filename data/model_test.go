package data

import (
	"bytes"
	"encoding/binary"
	"math/rand"
	"slices"
	"strconv"
	"strings"
	"testing"

	"logbook/api"
	"logbook/crc"
	"logbook/head"
	"logbook/image"
	"logbook/mix"
	"logbook/obj"
)

// sizes are how long the arrays of a list are.
var sizes = []int{4, 8, 16, 32, 64, 128, 256, 512, 1024}

// thing is an object of a file.
type thing struct {
	kind, at int
	raw      string
	// of is the place of the data object whose list an array is of.
	of int
	// loose tells of data for whose field there was no room.
	loose bool
}

// slow is the chapter, done on a list of all objects, and of what refers to each.
type slow struct {
	h     head.Head
	limit int
	tail  int
	l     []thing
	refs  map[int][]uint64
}

func newSlow(h head.Head, limit int) *slow {
	return &slow{h: h, limit: limit, tail: 256 + 8*h.Data + 8*h.Fields, refs: map[int][]uint64{}}
}

func (s *slow) copy() *slow {
	c := *s
	c.l, c.refs = slices.Clone(s.l), map[int][]uint64{}
	for at, l := range s.refs {
		c.refs[at] = slices.Clone(l)
	}
	return &c
}

func (s *slow) find(kind int, raw string) (int, bool) {
	for _, x := range s.l {
		if x.kind == kind && x.raw == raw {
			return x.at, true
		}
	}
	return 0, false
}

// isData tells whether a place is that of data.
func (s *slow) isData(at int) bool {
	return slices.ContainsFunc(s.l, func(x thing) bool { return x.kind == obj.Data && x.at == at })
}

// put puts an object of so many bytes; false: there is no room.
func (s *slow) put(x thing, size int) bool {
	end := (s.tail + size + 7) &^ 7
	if end > s.limit || end > 1<<20 {
		return false
	}
	x.at, s.tail = s.tail, end
	s.l = append(s.l, x)
	return true
}

func isName(s string) bool {
	return s != "" && len(s) <= 64 && s[0] > '9' && strings.Trim(s, "ABCDEFGHIJKLMNOPQRSTUVWXYZ0123456789_") == ""
}

func (s *slow) intern(raw string) (int, api.Errno) {
	field, _, ok := strings.Cut(raw, "=")
	if !ok || !isName(field) {
		return 0, api.ErrName
	}
	if len(raw) > 1024 {
		return 0, api.ErrBig
	}
	if at, ok := s.find(obj.Data, raw); ok {
		return at, api.OK
	}
	at := s.tail
	if !s.put(thing{kind: obj.Data, raw: raw}, 16+5*8+len(raw)) {
		return 0, api.ErrFile
	}
	if _, ok := s.find(obj.Field, field); !ok && !s.put(thing{kind: obj.Field, raw: field}, 16+3*8+len(field)) {
		s.l[len(s.l)-1].loose = true
		return 0, api.ErrFile
	}
	return at, api.OK
}

func (s *slow) refer(at int, entry uint64) api.Errno {
	if entry == 0 || !s.isData(at) {
		return api.ErrArg
	}
	room, arrays := 1, 0
	for _, x := range s.l {
		if x.kind == obj.Array && x.of == at {
			room += sizes[arrays]
			arrays++
		}
	}
	if len(s.refs[at]) == room && !s.put(thing{kind: obj.Array, of: at}, 24+8*sizes[arrays]) {
		return api.ErrFile
	}
	s.refs[at] = append(s.refs[at], entry)
	return api.OK
}

// place tells where the first one of some objects behind a place is; 0: there is none.
func (s *slow) place(behind int, is func(thing) bool) uint64 {
	for _, x := range s.l {
		if x.at > behind && is(x) {
			return uint64(x.at)
		}
	}
	return 0
}

// inBucket asks for objects of a kind in one bucket.
func (s *slow) inBucket(kind int, sum uint64) func(thing) bool {
	n := uint64(s.h.Data)
	if kind == obj.Field {
		n = uint64(s.h.Fields)
	}
	return func(x thing) bool { return x.kind == kind && mix.Hash(s.h.Key, []byte(x.raw))%n == sum%n }
}

// ofField asks for data of a field.
func ofField(field string) func(thing) bool {
	return func(x thing) bool {
		return x.kind == obj.Data && !x.loose && strings.HasPrefix(x.raw, field+"=")
	}
}

// ofList asks for the arrays of the entries of data.
func ofList(at int) func(thing) bool {
	return func(x thing) bool { return x.kind == obj.Array && x.of == at }
}

// object tells an object's numbers and bytes, as they stand in the file.
func (s *slow) object(x thing) obj.Object {
	o := obj.Object{Kind: x.kind, Words: make([]uint64, obj.Words(x.kind))}
	if x.kind == obj.Array {
		o.Words[0] = s.place(x.at, ofList(x.of))
		n, ahead := 0, 1
		for _, y := range s.l {
			if y.at < x.at && ofList(x.of)(y) {
				ahead += sizes[n]
				n++
			}
		}
		o.Items = make([]uint64, sizes[n])
		copy(o.Items, s.refs[x.of][ahead:])
		return o
	}
	o.Raw = []byte(x.raw)
	o.Words[0] = mix.Hash(s.h.Key, o.Raw)
	o.Words[1] = s.place(x.at, s.inBucket(x.kind, o.Words[0]))
	if x.kind == obj.Field {
		o.Words[2] = s.place(0, ofField(x.raw))
		return o
	}
	field, _, _ := strings.Cut(x.raw, "=")
	if !x.loose {
		o.Words[2] = s.place(x.at, ofField(field))
	}
	if l := s.refs[x.at]; len(l) > 0 {
		o.Words[3] = l[0]
	}
	o.Words[4] = s.place(0, ofList(x.at))
	return o
}

// file tells all bytes of the file.
func (s *slow) file() []byte {
	b := image.New(crc.Make(), s.h, 0).Bytes()
	for i := range s.h.Data {
		binary.LittleEndian.PutUint64(b[256+8*i:], s.place(0, s.inBucket(obj.Data, uint64(i))))
	}
	for i := range s.h.Fields {
		binary.LittleEndian.PutUint64(b[256+8*s.h.Data+8*i:], s.place(0, s.inBucket(obj.Field, uint64(i))))
	}
	for _, x := range s.l {
		b = append(b, obj.Encode(s.object(x))...)
	}
	return b
}

// value is an item of a field, and its place.
type value struct {
	at int
	s  string
}

// told goes through the items of a field.
func told(m *image.Image, field string) []value {
	var l []value
	for at, s := range Values(m, field) {
		l = append(l, value{at, s})
	}
	return l
}

func (s *slow) values(field string) []value {
	var l []value
	for _, x := range s.l {
		if ofField(field)(x) {
			l = append(l, value{x.at, x.raw})
		}
	}
	return l
}

// areRefs looks that the entries that have an item are these; what is searched for is asked if they rise.
func areRefs(t *testing.T, m *image.Image, at int, want []uint64) {
	t.Helper()
	s := Entries(m, at)
	for range 2 {
		if l := slices.Collect(s); !slices.Equal(l, want) {
			t.Fatal("Entries", at, l, want)
		}
	}
	if n := Count(m, at); n != len(want) {
		t.Fatal("Count", at, n, len(want))
	}
	for i := -3; i < len(want)+12; i++ {
		if x, ok := Nth(m, at, i); ok != (0 <= i && i < len(want)) || ok && x != want[i] || !ok && x != 0 {
			t.Fatal("Nth", at, i, x, ok, want)
		}
	}
	if !slices.IsSorted(want) {
		return
	}
	asked := []uint64{0, 1, 1 << 63, 1<<64 - 1}
	for _, x := range want {
		asked = append(asked, x-1, x, x+1)
	}
	for _, place := range asked {
		k := 0
		for k < len(want) && want[k] < place {
			k++
		}
		if n := Search(m, at, place); n != k {
			t.Fatal("Search", at, place, n, k)
		}
	}
}

// isLike looks that an image is as the slow one.
func isLike(t *testing.T, m *image.Image, s *slow) {
	t.Helper()
	if b := s.file(); !bytes.Equal(m.Bytes(), b) {
		t.Fatal("bytes", m.Bytes(), b)
	}
	for _, x := range s.l {
		areRefs(t, m, x.at, s.refs[x.at])
		if x.kind == obj.Data {
			if at, ok := Find(m, x.raw); at != x.at || !ok {
				t.Fatal("Find", x, at, ok)
			}
		}
		if x.kind == obj.Field {
			if l := told(m, x.raw); !slices.Equal(l, s.values(x.raw)) {
				t.Fatal("Values", x, l, s.values(x.raw))
			}
		}
	}
}

// anyItem makes an item by chance: now and then one that may not be.
func anyItem(r *rand.Rand) string {
	field := []string{"A", "B", "AA", "_", "A1", strings.Repeat("F", 64)}[r.Intn(6)]
	switch r.Intn(25) {
	case 0:
		return []string{"", "A", "=", "=1", "a=1", "1A=1", "A-=1", field, strings.Repeat("F", 65) + "="}[r.Intn(9)]
	case 1:
		return field + "=" + strings.Repeat("x", 1020-len(field)+r.Intn(6))
	}
	return field + "=" + strconv.Itoa(r.Intn(12))
}

// P15.1 to P15.4

func TestStepsByChance(t *testing.T) {
	for seed := range int64(60) {
		r := rand.New(rand.NewSource(seed))
		h := head.Head{Key: r.Uint64(), Data: 1 + r.Intn(5), Fields: 1 + r.Intn(4)}
		limit := 1 << 20
		if seed%3 > 0 {
			limit = r.Intn(9000)
		}
		m, s := image.New(crc.Make(), h, limit), newSlow(h, limit)
		was := s.copy()
		entry := uint64(0)
		for range 150 {
			e := step(t, r, m, s, &entry)
			isLike(t, m, s)
			switch k := r.Intn(40); {
			// Of what was refused for want of room in part nothing is promised until it is taken back.
			case e == api.ErrFile || k == 0:
				m.Back()
				s = was.copy()
				isLike(t, m, s)
			case k == 1:
				m = image.Load(h, m.Bytes(), limit)
				was = s.copy()
			case k == 2:
				m = m.Copy()
				was = s.copy()
			case k < 6:
				m.Done()
				was = s.copy()
			}
		}
	}
}

// step does one call by chance, and tells its error.
func step(t *testing.T, r *rand.Rand, m *image.Image, s *slow, entry *uint64) api.Errno {
	t.Helper()
	if r.Intn(3) == 0 || len(s.l) == 0 {
		raw := anyItem(r)
		at, e := Intern(m, raw)
		if want, wantE := s.intern(raw); at != want || e != wantE {
			t.Fatal("Intern", raw, at, e, want, wantE)
		}
		return e
	}
	at := s.l[r.Intn(min(len(s.l), 5))].at
	if r.Intn(20) == 0 {
		at = r.Intn(m.Tail() + 20)
	}
	// Now and then the same one again.
	*entry += uint64(r.Intn(4))
	e := Refer(m, at, *entry)
	if want := s.refer(at, *entry); e != want {
		t.Fatal("Refer", at, *entry, e, want)
	}
	return e
}
