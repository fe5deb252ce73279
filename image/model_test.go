package image

import (
	"bytes"
	"encoding/binary"
	"math/rand"
	"slices"
	"testing"

	"logbook/api"
	"logbook/crc"
	"logbook/head"
	"logbook/obj"
)

// slow is the chapter's image: all bytes as they are, and as they were when nothing was changed.
type slow struct {
	h       head.Head
	limit   int
	now     []byte
	was     []byte
	changed []int
}

func newSlow(h head.Head, b []byte, limit int) *slow {
	return &slow{h: h, limit: limit, now: bytes.Clone(b), was: bytes.Clone(b)}
}

func (s *slow) word(at int) uint64 {
	if at < 0 || at+8 > len(s.now) {
		return 0
	}
	return binary.LittleEndian.Uint64(s.now[at:])
}

func (s *slow) set(at int, n uint64) api.Errno {
	if at < 192 || at&7 != 0 || at+8 > len(s.now) {
		return api.ErrArg
	}
	if s.word(at) != 0 {
		return api.ErrTwice
	}
	binary.LittleEndian.PutUint64(s.now[at:], n)
	if at < len(s.was) {
		s.changed = append(s.changed, at)
	}
	return api.OK
}

func (s *slow) put(o obj.Object) (int, api.Errno) {
	b := obj.Encode(o)
	if len(b) == 0 {
		return 0, api.ErrArg
	}
	at := len(s.now)
	if at+len(b) > s.limit || at+len(b) > 1<<20 {
		return 0, api.ErrFile
	}
	s.now = append(bytes.Clone(s.now), b...)
	return at, api.OK
}

func (s *slow) change() Change {
	c := Change{At: len(s.was), Fresh: s.now[len(s.was):]}
	for _, at := range s.changed {
		c.Words = append(c.Words, Patch{At: at, B: s.now[at : at+8]})
	}
	return c
}

func (s *slow) done() { s.was, s.changed = bytes.Clone(s.now), nil }

func (s *slow) back() { s.now, s.changed = bytes.Clone(s.was), nil }

func (s *slow) copy() *slow { return newSlow(s.h, s.now, s.limit) }

// laidOver tells bytes with a change laid over them.
func laidOver(b []byte, c Change) []byte {
	l := append(slices.Clone(b[:c.At]), c.Fresh...)
	for _, p := range c.Words {
		copy(l[p.At:], p.B)
	}
	return l
}

func sameChange(a, b Change) bool {
	return a.At == b.At && bytes.Equal(a.Fresh, b.Fresh) && slices.EqualFunc(a.Words, b.Words, func(p, q Patch) bool {
		return p.At == q.At && bytes.Equal(p.B, q.B)
	})
}

// isLike looks that an image is as the slow one.
func isLike(t *testing.T, what string, m *Image, s *slow) {
	t.Helper()
	if m.Head() != s.h || m.Tail() != len(s.now) || !bytes.Equal(m.Bytes(), s.now) {
		t.Fatal(what, m.Head(), m.Tail(), len(s.now), m.Bytes(), s.now)
	}
	c := m.Change()
	if !sameChange(c, s.change()) {
		t.Fatal(what, c, s.change())
	}
	// P12.5
	if !bytes.Equal(laidOver(s.was, c), m.Bytes()) {
		t.Fatal(what, "what was changed, laid over what was there:", laidOver(s.was, c), m.Bytes())
	}
}

// anyObject makes an object by chance, which now and then may not be.
func anyObject(r *rand.Rand) obj.Object {
	o := obj.Object{Kind: r.Intn(5)}
	if r.Intn(20) > 0 {
		o.Kind = 1 + r.Intn(4)
	}
	o.Words = make([]uint64, obj.Words(o.Kind))
	for i := range o.Words {
		o.Words[i] = uint64(r.Intn(3))
	}
	if o.Kind == obj.Data || o.Kind == obj.Field {
		o.Raw = bytes.Repeat([]byte{byte(r.Intn(3))}, r.Intn(20))
	} else {
		o.Items = make([]uint64, r.Intn(5))
	}
	return o
}

// step does one thing by chance to both, and looks that both answer it alike.
func step(t *testing.T, r *rand.Rand, m *Image, s *slow) {
	t.Helper()
	at := r.Intn(len(s.now)+24) - 8
	if r.Intn(4) > 0 {
		at &^= 7
	}
	switch n := r.Intn(40); {
	case n < 25:
		x := uint64(r.Intn(3)) << (8 * r.Intn(8))
		if e, want := m.Set(at, x), s.set(at, x); e != want {
			t.Fatal("Set at", at, x, e, want)
		}
	case n < 36:
		o := anyObject(r)
		at, e := m.Put(o)
		if want, wantE := s.put(o); at != want || e != wantE {
			t.Fatal("Put", o, at, e, want, wantE)
		}
	case n < 38:
		m.Done()
		s.done()
	default:
		m.Back()
		s.back()
	}
	if m.Word(at) != s.word(at) {
		t.Fatal("Word at", at, m.Word(at), s.word(at))
	}
	isLike(t, "step", m, s)
}

func TestStepsByChance(t *testing.T) {
	table := crc.Make()
	for seed := range int64(150) {
		r := rand.New(rand.NewSource(seed))
		h := head.Head{ID: r.Uint64(), Key: r.Uint64(), Data: 1 + r.Intn(5), Fields: 1 + r.Intn(5), Made: r.Uint64()}
		limit := r.Intn(3000)
		m := New(table, h, limit)
		s := newSlow(h, empty(h), limit)
		// Bytes that were loaded needn't end where an object does.
		if seed%2 == 1 {
			b := append(empty(h), make([]byte, r.Intn(60))...)
			m, s = Load(h, b, limit), newSlow(h, b, limit)
		}
		isLike(t, "at first", m, s)
		for range 150 {
			step(t, r, m, s)
		}
	}
}

// An image and its copies go their own ways.
func TestStepsOfCopiesByChance(t *testing.T) {
	table := crc.Make()
	for seed := range int64(30) {
		r := rand.New(rand.NewSource(seed))
		h := head.Head{Data: 2, Fields: 2, Key: 7}
		images := []*Image{New(table, h, 2000)}
		models := []*slow{newSlow(h, empty(h), 2000)}
		for range 150 {
			i := r.Intn(len(images))
			step(t, r, images[i], models[i])
			if r.Intn(15) == 0 {
				images, models = append(images, images[i].Copy()), append(models, models[i].copy())
			}
			for j, m := range images {
				isLike(t, "a copy", m, models[j])
			}
		}
	}
}
