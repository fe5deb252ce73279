package table

import (
	"bytes"
	"math/rand"
	"slices"
	"strconv"
	"testing"

	"logbook/api"
	"logbook/crc"
	"logbook/head"
	"logbook/image"
	"logbook/mix"
	"logbook/obj"
)

// thing is an object that was added.
type thing struct {
	kind, at int
	raw      []byte
}

// slow is the chapter's tables: all that was added, in its order.
type slow struct {
	h     head.Head
	limit int
	tail  int
	l     []thing
}

func (s *slow) buckets(kind int) uint64 {
	if kind == obj.Data {
		return uint64(s.h.Data)
	}
	return uint64(s.h.Fields)
}

// bucket tells what of a kind lies in the bucket of a sum.
func (s *slow) bucket(kind int, sum uint64) []thing {
	var l []thing
	n := s.buckets(kind)
	for _, x := range s.l {
		if x.kind == kind && mix.Hash(s.h.Key, x.raw)%n == sum%n {
			l = append(l, x)
		}
	}
	return l
}

func (s *slow) find(kind int, raw []byte) (int, bool) {
	for _, x := range s.l {
		if x.kind == kind && bytes.Equal(x.raw, raw) {
			return x.at, true
		}
	}
	return 0, false
}

func (s *slow) add(kind int, raw []byte) (int, bool, api.Errno) {
	if kind != 1 && kind != 2 {
		return 0, false, api.ErrArg
	}
	if at, ok := s.find(kind, raw); ok {
		return at, false, api.OK
	}
	front, most := 16+5*8, 1024
	if kind == 2 {
		front, most = 16+3*8, 64
	}
	if len(raw) == 0 || len(raw) > most {
		return 0, false, api.ErrArg
	}
	end := (s.tail + front + len(raw) + 7) &^ 7
	if end > s.limit {
		return 0, false, api.ErrFile
	}
	at := s.tail
	s.l = append(s.l, thing{kind, at, bytes.Clone(raw)})
	s.tail = end
	return at, true, api.OK
}

// object is how what was added stands in the file.
func (s *slow) object(x thing) obj.Object {
	o := obj.Object{Kind: x.kind, Words: make([]uint64, obj.Words(x.kind)), Raw: x.raw}
	o.Words[0] = mix.Hash(s.h.Key, x.raw)
	for _, y := range s.bucket(x.kind, o.Words[0]) {
		if y.at > x.at {
			o.Words[1] = uint64(y.at)
			break
		}
	}
	return o
}

// file tells all bytes of the file.
func (s *slow) file() []byte {
	b := image.New(crc.Make(), s.h, 0).Bytes()
	lay := func(at int, sum uint64, kind int) {
		if l := s.bucket(kind, sum); len(l) > 0 {
			b[at], b[at+1], b[at+2] = byte(l[0].at), byte(l[0].at>>8), byte(l[0].at>>16)
		}
	}
	for i := range s.h.Data {
		lay(256+8*i, uint64(i), obj.Data)
	}
	for i := range s.h.Fields {
		lay(256+8*s.h.Data+8*i, uint64(i), obj.Field)
	}
	for _, x := range s.l {
		b = append(b, obj.Encode(s.object(x))...)
	}
	return b
}

// isLike looks that an image is as the slow one.
func isLike(t *testing.T, what string, m *image.Image, s *slow) {
	t.Helper()
	if !bytes.Equal(m.Bytes(), s.file()) {
		t.Fatal(what, m.Bytes(), s.file())
	}
	for _, kind := range []int{obj.Data, obj.Field} {
		n := s.buckets(kind)
		for i := range 2 * n {
			// A sum is any number that leaves i, not i alone.
			sum := i + n*uint64(len(s.l))
			var want []place
			for _, x := range s.bucket(kind, sum) {
				want = append(want, place{x.at, s.object(x)})
			}
			if l := told(All(m, kind, sum)); !slices.EqualFunc(l, want, samePlace) {
				t.Fatal(what, "All", kind, sum, l, want)
			}
		}
	}
	for _, x := range s.l {
		for _, kind := range []int{obj.Data, obj.Field} {
			at, ok := Find(m, kind, x.raw)
			if want, wantOK := s.find(kind, x.raw); at != want || ok != wantOK {
				t.Fatal(what, "Find", kind, x.raw, at, ok, want, wantOK)
			}
		}
	}
}

// anyRaw makes bytes by chance: now and then such as there are already, or more than may be.
func anyRaw(r *rand.Rand) []byte {
	switch r.Intn(20) {
	case 0:
		return nil
	case 1:
		return bytes.Repeat([]byte{'A'}, []int{64, 65, 1024, 1025}[r.Intn(4)])
	}
	b := make([]byte, 1+r.Intn(10))
	for i := range b {
		b[i] = byte(r.Intn(2))
	}
	return b
}

func TestStepsByChance(t *testing.T) {
	for seed := range int64(60) {
		r := rand.New(rand.NewSource(seed))
		h := head.Head{Key: r.Uint64(), Data: 1 + r.Intn(6), Fields: 1 + r.Intn(6)}
		s := &slow{h: h, limit: r.Intn(6000), tail: 256 + 8*h.Data + 8*h.Fields}
		m := image.New(crc.Make(), h, s.limit)
		isLike(t, "at first", m, s)
		for i := range 60 {
			kind, raw := r.Intn(6), anyRaw(r)
			if r.Intn(8) > 0 {
				kind = 1 + r.Intn(2)
			}
			at, fresh, e := Add(m, kind, raw)
			if want, wantFresh, wantE := s.add(kind, raw); at != want || fresh != wantFresh || e != wantE {
				t.Fatal("Add", kind, raw, at, fresh, e, want, wantFresh, wantE)
			}
			isLike(t, "step "+strconv.Itoa(i), m, s)
			kind, raw = 1+r.Intn(2), anyRaw(r)
			at, ok := Find(m, kind, raw)
			if want, wantOK := s.find(kind, raw); at != want || ok != wantOK {
				t.Fatal("Find", kind, raw, at, ok, want, wantOK)
			}
		}
	}
}
