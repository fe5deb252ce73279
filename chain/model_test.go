package chain

import (
	"bytes"
	"encoding/binary"
	"math/rand"
	"slices"
	"testing"

	"logbook/api"
	"logbook/crc"
	"logbook/head"
	"logbook/image"
	"logbook/obj"
)

// sizes are how long the arrays of a list are; those behind are as long as the last one.
var sizes = []int{4, 8, 16, 32, 64, 128, 256, 512, 1024}

// slow is the chapter's lists, read off a file's bytes.
type slow struct {
	b       []byte
	objects int
	limit   int
}

// newSlow makes the slow one of an image as it is.
func newSlow(m *image.Image, limit int) *slow {
	return &slow{b: m.Bytes(), objects: 256 + 8*m.Head().Data + 8*m.Head().Fields, limit: limit}
}

func (s *slow) word(at int) uint64 {
	if at < 0 || at > len(s.b)-8 {
		return 0
	}
	return binary.LittleEndian.Uint64(s.b[at:])
}

// items tells the places of the array at a place, its noughts too; none: no array is there.
func (s *slow) items(at uint64) []uint64 {
	if at < uint64(s.objects) || at >= uint64(len(s.b)) || at%8 != 0 || s.word(int(at)) != 4 {
		return nil
	}
	size, room := s.word(int(at)+8), uint64(len(s.b))-at
	if size < 32 || size > 24+8*1024 || size%8 != 0 || size > room {
		return nil
	}
	var l []uint64
	for i := uint64(24); i < size; i += 8 {
		l = append(l, s.word(int(at+i)))
	}
	return l
}

// arrays tells where the arrays of a list are.
func (s *slow) arrays(root int) []int {
	var l []int
	at, ahead := s.word(root), uint64(0)
	for at > ahead && s.items(at) != nil {
		l = append(l, int(at))
		at, ahead = s.word(int(at)+16), at
	}
	return l
}

// places tells a list.
func (s *slow) places(root int) []uint64 {
	var l []uint64
	for _, at := range s.arrays(root) {
		for _, x := range s.items(uint64(at)) {
			if x == 0 {
				return l
			}
			l = append(l, x)
		}
	}
	return l
}

func (s *slow) lay(at int, x uint64) { binary.LittleEndian.PutUint64(s.b[at:], x) }

func (s *slow) append(root int, x uint64) api.Errno {
	if x == 0 {
		return api.ErrArg
	}
	l, link := s.arrays(root), root
	if len(l) > 0 {
		last := l[len(l)-1]
		for i, y := range s.items(uint64(last)) {
			if y == 0 {
				s.lay(last+24+8*i, x)
				return api.OK
			}
		}
		link = last + 16
	}
	at, size := len(s.b), 24+8*sizes[min(len(l), len(sizes)-1)]
	if at+size > s.limit || at+size > 1<<20 {
		return api.ErrFile
	}
	if link%8 != 0 || link < 192 || link > len(s.b)-8 {
		return api.ErrArg
	}
	if s.word(link) != 0 {
		return api.ErrTwice
	}
	s.b = append(s.b, make([]byte, size)...)
	s.lay(at, 4)
	s.lay(at+8, uint64(size))
	s.lay(at+24, x)
	s.lay(link, uint64(at))
	return api.OK
}

// isLike looks that a list of an image is as the slow one has it. Its places must not be alike.
func isLike(t *testing.T, m *image.Image, s *slow, root int) {
	t.Helper()
	arrays := s.arrays(root)
	var at []int
	for place, o := range Arrays(m, root) {
		at = append(at, place)
		if there, ok := m.Object(place); !ok || !obj.Same(o, there) {
			t.Fatal("Arrays", root, place, o, there, ok)
		}
	}
	if !slices.Equal(at, arrays) {
		t.Fatal("Arrays", root, at, arrays)
	}
	want := s.places(root)
	if l := slices.Collect(All(m, root)); !slices.Equal(l, want) {
		t.Fatal("All", root, l, want)
	}
	if n := Len(m, root); n != len(want) {
		t.Fatal("Len", root, n, len(want))
	}
	for i := -2; i < len(want)+3; i++ {
		if x, ok := Nth(m, root, i); ok != (0 <= i && i < len(want)) || ok && x != want[i] || !ok && x != 0 {
			t.Fatal("Nth", root, i, x, ok, want)
		}
	}
	for i := range len(want) + 2 {
		from := func(x uint64) bool {
			k := slices.Index(want, x)
			if k < 0 {
				t.Fatal("Search asks for what isn't of the list:", x, want)
			}
			return k >= i
		}
		if k := Search(m, root, from); k != min(i, len(want)) {
			t.Fatal("Search", root, i, k, want)
		}
	}
}

// other tells numbers that are never alike, nor 0, nor rising.
func other(n *uint64) uint64 {
	*n++
	return *n * 0x9e3779b97f4a7c15
}

// Many lists of one image, side by side, that stay, are taken back, or loaded now and then.
func TestListsByChance(t *testing.T) {
	for seed := range int64(80) {
		r := rand.New(rand.NewSource(seed))
		h := head.Head{Key: r.Uint64(), Data: 1 + r.Intn(3), Fields: 1 + r.Intn(3)}
		limit := 1 << 20
		if seed%2 > 0 {
			limit = r.Intn(6000)
		}
		m := image.New(crc.Make(), h, limit)
		roots, n := []int{192, 200, 248, 256}, uint64(0)
		for range 3 {
			o := obj.Object{Kind: obj.Data, Words: make([]uint64, 5), Raw: []byte("A=1")}
			if at, e := m.Put(o); e == api.OK {
				roots = append(roots, at+obj.At(obj.First), at+obj.At(obj.Chain))
			}
		}
		m.Done()
		s, lists := newSlow(m, limit), map[int][]uint64{}
		was, wereLists := bytes.Clone(s.b), map[int][]uint64{}
		for range 200 {
			root, x := roots[r.Intn(len(roots))], other(&n)
			if r.Intn(20) == 0 {
				x = 0
			}
			e := Append(m, root, x)
			if want := s.append(root, x); e != want {
				t.Fatal("Append", root, x, e, want)
			}
			if e == api.OK {
				lists[root] = append(slices.Clip(lists[root]), x)
			}
			switch r.Intn(30) {
			case 0:
				m.Back()
				s.b, lists = bytes.Clone(was), map[int][]uint64{}
				for k, l := range wereLists {
					lists[k] = l
				}
			case 1:
				m = image.Load(h, m.Bytes(), limit)
				fallthrough
			case 2:
				m.Done()
				was, wereLists = bytes.Clone(s.b), map[int][]uint64{}
				for k, l := range lists {
					wereLists[k] = l
				}
			}
			if !bytes.Equal(m.Bytes(), s.b) {
				t.Fatal("bytes", m.Bytes(), s.b)
			}
			isLike(t, m, s, root)
		}
		// P14.4
		for _, root := range roots {
			if l := slices.Collect(All(m, root)); !slices.Equal(l, lists[root]) {
				t.Fatal(root, l, lists[root])
			}
		}
	}
}

// Arrays, and words that lead to them, by chance: noughts among the places, arrays of other sizes, rings, words that lead nowhere.
func TestWhateverIsThere(t *testing.T) {
	for seed := range int64(1500) {
		r := rand.New(rand.NewSource(seed))
		limit := 272 + r.Intn(1500)
		m := image.New(crc.Make(), head.Head{Data: 1, Fields: 1}, limit)
		n := uint64(0)
		// Most arrays have 4 places, and so are 56 bytes apart: most words lead to one, others to any word near by.
		lead := func() uint64 {
			at := 272 + 56*r.Intn(7)
			if r.Intn(4) == 0 {
				at += 8 * r.Intn(9)
			}
			return uint64(at)
		}
		for range r.Intn(7) {
			o := obj.Object{Kind: obj.Array, Words: []uint64{lead()}, Items: make([]uint64, 4)}
			if r.Intn(2) == 0 {
				o.Words[0] = 0
			}
			if r.Intn(5) == 0 {
				o.Items = make([]uint64, 1+r.Intn(12))
			}
			for i := range o.Items {
				if r.Intn(10) > 0 {
					o.Items[i] = other(&n)
				}
			}
			m.Put(o)
		}
		roots := []int{192, 200, 256, 264}
		for _, root := range roots {
			m.Set(root, lead())
		}
		roots = append(roots, 0, 64, 184, 193, 208, m.Tail()-8, m.Tail(), m.Tail()+16, m.Tail()+32, r.Intn(m.Tail()))
		s := newSlow(m, limit)
		for range 20 {
			root, x := roots[r.Intn(len(roots))], other(&n)
			isLike(t, m, s, root)
			before, change := m.Bytes(), m.Change()
			e := Append(m, root, x)
			if want := s.append(root, x); e != want || !bytes.Equal(m.Bytes(), s.b) {
				t.Fatal(seed, "Append", root, x, e, want)
			}
			if e != api.OK && (!bytes.Equal(m.Bytes(), before) || !sameChange(m.Change(), change)) {
				t.Fatal(seed, "Append that tells", e, "changes")
			}
		}
	}
}
