package stamp

import (
	"math"
	"math/big"
	"math/rand"
	"slices"
	"strings"
	"testing"

	"logbook/api"
)

const all uint64 = math.MaxUint64

// edges are numbers at which something turns: 0, the first ones, the middle of 64 bits, and the last ones.
var edges = []uint64{0, 1, 2, 3, 5, 6, 7, 1 << 32, 1<<63 - 1, 1 << 63, 1<<63 + 1, all - 2, all - 1, all}

// chapter is a stamp as the chapter tells it, with numbers that have no end: the next one is behind 2^64 - 1, if all are used.
type chapter struct {
	next, most *big.Int
	boot       uint64
}

func number(n uint64) *big.Int { return new(big.Int).SetUint64(n) }

func newChapter(next, most, boot uint64) *chapter {
	if next == 0 {
		next = 1
	}
	return &chapter{number(next), number(most), boot}
}

func (c *chapter) Next() uint64 {
	if c.next.Cmp(c.most) > 0 || c.next.Cmp(number(all)) > 0 {
		return 0
	}
	return c.next.Uint64()
}

func (c *chapter) Last() uint64 {
	return new(big.Int).Sub(c.next, big.NewInt(1)).Uint64()
}

func (c *chapter) Used(seq uint64) {
	if n := number(seq); n.Cmp(c.next) >= 0 {
		c.next = n.Add(n, big.NewInt(1))
	}
}

// same holds all that a stamp tells against the chapter.
func same(t *testing.T, s *Stamp, c *chapter, did ...uint64) {
	t.Helper()
	if s.Next() != c.Next() || s.Last() != c.Last() || s.Boot() != c.boot {
		t.Fatalf("%v: Next %d, Last %d, Boot %d; want %d, %d, %d", did, s.Next(), s.Last(), s.Boot(), c.Next(), c.Last(), c.boot)
	}
	r, e := s.Record(5, 6, "B=1", "A=1")
	if c.Next() == 0 {
		nothing(t, r, e)
		return
	}
	is(t, r, e, api.Record{Seq: c.Next(), Real: 5, Mono: 6, Boot: c.boot, Items: []string{"B=1", "A=1"}})
}

// nothing asks for ErrSeq, and no entry beside it.
func nothing(t *testing.T, r api.Record, e api.Errno) {
	t.Helper()
	if e != api.ErrSeq || r.Seq != 0 || r.Real != 0 || r.Mono != 0 || r.Boot != 0 || len(r.Items) != 0 {
		t.Fatal(r, e)
	}
}

// is asks for an entry.
func is(t *testing.T, r api.Record, e api.Errno, want api.Record) {
	t.Helper()
	if e != api.OK || r.Seq != want.Seq || r.Real != want.Real || r.Mono != want.Mono || r.Boot != want.Boot || !slices.Equal(r.Items, want.Items) {
		t.Fatal(r, e, "; want", want)
	}
}

// P21.1

func TestNewStamps(t *testing.T) {
	for _, c := range []struct{ next, most, wantNext, wantLast uint64 }{
		{1, all, 1, 0},
		{0, all, 1, 0},
		{5, 6, 5, 4},
		{6, 6, 6, 5},
		{7, 6, 0, 6},
		{100, 6, 0, 99},
		{0, 0, 0, 0},
		{1, 0, 0, 0},
		{2, 0, 0, 1},
		{0, 1, 1, 0},
		{1, 1, 1, 0},
		{2, 1, 0, 1},
		{1 << 63, 1 << 63, 1 << 63, 1<<63 - 1},
		{1<<63 + 1, 1 << 63, 0, 1 << 63},
		{all - 1, all, all - 1, all - 2},
		{all, all, all, all - 1},
		{all, all - 1, 0, all - 1},
		{all, 0, 0, all - 1},
	} {
		s := New(c.next, c.most, 9)
		if s.Next() != c.wantNext || s.Last() != c.wantLast || s.Boot() != 9 {
			t.Errorf("New(%d, %d, 9): Next %d, Last %d, Boot %d", c.next, c.most, s.Next(), s.Last(), s.Boot())
		}
	}
}

func TestNewStampsOfAllEdges(t *testing.T) {
	for _, next := range edges {
		for _, most := range edges {
			for _, boot := range edges {
				same(t, New(next, most, boot), newChapter(next, most, boot), next, most, boot)
			}
		}
	}
}

func TestAllNumbersAreUsed(t *testing.T) {
	for _, next := range edges {
		for _, most := range edges {
			s := New(next, most, 3)
			s.Used(all)
			if s.Next() != 0 || s.Last() != all || s.Boot() != 3 {
				t.Errorf("New(%d, %d, 3), Used(%d): Next %d, Last %d, Boot %d", next, most, all, s.Next(), s.Last(), s.Boot())
			}
		}
	}
}

func TestNilStamp(t *testing.T) {
	var s *Stamp
	for range 2 {
		if s.Next() != 0 || s.Last() != 0 || s.Boot() != 0 {
			t.Error(s.Next(), s.Last(), s.Boot())
		}
		r, e := s.Record(1, 2, "A=1")
		nothing(t, r, e)
		for _, seq := range edges {
			s.Used(seq)
		}
	}
}

// P21.2

func TestRecord(t *testing.T) {
	for _, l := range [][]string{
		nil,
		{},
		{"A=1"},
		{"B=2", "A=1", "B=2", "A=0"},
		{"", "a=1", "A", "=", "\x00\xff", "9=9"},
		{strings.Repeat("A", api.MaxItem+1)},
		slices.Repeat([]string{"A=1"}, api.MaxItems+1),
	} {
		for _, clock := range edges {
			s := New(7, 8, clock)
			r, e := s.Record(clock, all-clock, l...)
			is(t, r, e, api.Record{Seq: 7, Real: clock, Mono: all - clock, Boot: clock, Items: l})
		}
	}
	r, e := New(0, 3, 9).Record(5, 6, "A=1")
	is(t, r, e, api.Record{Seq: 1, Real: 5, Mono: 6, Boot: 9, Items: []string{"A=1"}})
	r, e = New(all, all, 0).Record(0, 0)
	is(t, r, e, api.Record{Seq: all})
}

func TestRecordUsesNothing(t *testing.T) {
	s := New(5, 5, 1)
	for i := range uint64(5) {
		r, e := s.Record(i, 10-i, "A=1")
		is(t, r, e, api.Record{Seq: 5, Real: i, Mono: 10 - i, Boot: 1, Items: []string{"A=1"}})
		if s.Next() != 5 || s.Last() != 4 {
			t.Error(s.Next(), s.Last())
		}
	}
	s.Used(5)
	for range 3 {
		r, e := s.Record(1, 2, "A=1")
		nothing(t, r, e)
		if s.Next() != 0 || s.Last() != 5 || s.Boot() != 1 {
			t.Error(s.Next(), s.Last(), s.Boot())
		}
	}
}

func TestRecordWithoutNumber(t *testing.T) {
	used := New(all, all, 1)
	used.Used(all)
	for _, s := range []*Stamp{nil, used, New(2, 1, 1), New(0, 0, 1), New(all, all-1, 1)} {
		r, e := s.Record(5, 6, "A=1", "bad")
		nothing(t, r, e)
		r, e = s.Record(5, 6)
		nothing(t, r, e)
	}
}

func TestRecordsItemsAreItsOwn(t *testing.T) {
	room := []string{"B=1", "A=1", "C=1", "D=1"}
	s := New(1, all, 1)
	a, _ := s.Record(1, 2, room[:2]...)
	b, _ := s.Record(1, 2, room[:2]...)
	none, _ := s.Record(1, 2, room[:0]...)
	room[0] = "Z=1"
	a.Items[1] = "Y=1"
	_ = append(b.Items, "X=1")
	_ = append(none.Items, "W=1")
	if want := []string{"Z=1", "A=1", "C=1", "D=1"}; !slices.Equal(room, want) {
		t.Error("what was handed in is changed:", room)
	}
	if !slices.Equal(a.Items, []string{"B=1", "Y=1"}) || !slices.Equal(b.Items, []string{"B=1", "A=1"}) || len(none.Items) != 0 {
		t.Error("entries share their items:", a, b, none)
	}
	c, e := s.Record(1, 2)
	is(t, c, e, api.Record{Seq: 1, Real: 1, Mono: 2, Boot: 1})
}

// P21.3

func TestUsed(t *testing.T) {
	s := New(5, 9, 1)
	for _, c := range []struct{ seq, next, last uint64 }{
		{0, 5, 4}, {3, 5, 4}, {4, 5, 4}, // less than the next one
		{5, 6, 5}, {5, 6, 5}, {4, 6, 5}, // it, and once more
		{8, 9, 8}, {7, 9, 8}, // some are left out
		{9, 0, 9}, {9, 0, 9}, // there is no number any more
		{8, 0, 9}, {12, 0, 12}, {11, 0, 12}, // but those used count on
		{all - 1, 0, all - 1}, {all, 0, all},
		{all, 0, all}, {0, 0, all}, {1, 0, all}, {all - 1, 0, all},
	} {
		s.Used(c.seq)
		if s.Next() != c.next || s.Last() != c.last || s.Boot() != 1 {
			t.Fatalf("Used(%d): Next %d, Last %d, Boot %d; want %d, %d, 1", c.seq, s.Next(), s.Last(), s.Boot(), c.next, c.last)
		}
	}
}

func TestUsedOneByOne(t *testing.T) {
	for _, first := range []uint64{1, 1<<63 - 5, all - 9} {
		s := New(first, all, 2)
		for i := range uint64(10) {
			r, e := s.Record(i, i, "A=1")
			is(t, r, e, api.Record{Seq: first + i, Real: i, Mono: i, Boot: 2, Items: []string{"A=1"}})
			s.Used(r.Seq)
			if s.Last() != first+i {
				t.Fatal(s.Last())
			}
		}
	}
}

func TestUsedTwiceOfAllEdges(t *testing.T) {
	for _, next := range edges {
		for _, most := range edges {
			for _, one := range edges {
				for _, two := range edges {
					s, c := New(next, most, 4), newChapter(next, most, 4)
					s.Used(one)
					c.Used(one)
					same(t, s, c, next, most, one)
					s.Used(two)
					c.Used(two)
					same(t, s, c, next, most, one, two)
				}
			}
		}
	}
}

func TestUsedByChance(t *testing.T) {
	chance := rand.New(rand.NewSource(21))
	some := func() uint64 { return edges[chance.Intn(len(edges))] + uint64(chance.Intn(7)) - 3 }
	for range 2000 {
		next, most, boot := some(), some(), some()
		s, c := New(next, most, boot), newChapter(next, most, boot)
		did := []uint64{next, most, boot}
		for range 20 {
			seq := some()
			switch chance.Intn(3) {
			case 0:
				seq = c.Last() + 1 + uint64(chance.Intn(3))
			case 1:
				seq = c.Last() - uint64(chance.Intn(3))
			}
			did = append(did, seq)
			s.Used(seq)
			c.Used(seq)
			same(t, s, c, did...)
		}
	}
}

func TestStampsStandAlone(t *testing.T) {
	a, b := New(5, 9, 1), New(5, 9, 2)
	a.Used(7)
	if a.Next() != 8 || b.Next() != 5 || a.Boot() != 1 || b.Boot() != 2 {
		t.Error(a.Next(), b.Next(), a.Boot(), b.Boot())
	}
}

// The chapter's example.
func TestExample(t *testing.T) {
	s := New(5, 6, 1)
	s.Used(5)
	if s.Next() != 6 {
		t.Error(s.Next())
	}
	s.Used(6)
	if s.Next() != 0 {
		t.Error(s.Next())
	}
}
