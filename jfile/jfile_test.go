package jfile

import (
	"bytes"
	"math"
	"slices"
	"strings"
	"testing"

	"logbook/api"
	"logbook/crc"
	"logbook/entry"
	"logbook/head"
	"logbook/image"
	"logbook/le"
	"logbook/slot"
	"logbook/vdisk"
	"logbook/verify"
)

// one is a header as files have them; its objects begin at 304, so that a file without entries takes five sectors.
var one = head.Head{ID: 7, Key: 8, Data: 4, Fields: 2, Made: 9}

var table = crc.Make()

// whole is the disk as it is, had all that is pending been kept: of one that has stopped this can be read.
func whole(d *vdisk.Disk) *vdisk.Disk {
	return d.Crash(slices.Repeat([]bool{true}, d.Loose())...)
}

// content is a file's bytes as they are on a disk, which may have stopped.
func content(t *testing.T, d *vdisk.Disk, name string) []byte {
	t.Helper()
	b, e := whole(d).Read(name, 0, 1<<20)
	if e != api.OK {
		t.Fatal(name, "can't be read:", e)
	}
	return b
}

// laid is the bytes of an image with slots.
func laid(m *image.Image, slots ...slot.Slot) []byte {
	b := m.Bytes()
	for _, s := range slots {
		copy(b[64+64*(s.Turn%2):], s.Encode(table))
	}
	return b
}

// with is an image of a header with entries.
func with(t *testing.T, h head.Head, l ...api.Record) *image.Image {
	t.Helper()
	m := image.New(table, h, 1<<20)
	for _, r := range l {
		if _, e := entry.Add(m, r); e != api.OK {
			t.Fatal(r, e)
		}
	}
	return m
}

// records are some entries, whose items they share in part; all by numbers that rise.
func records(seqs ...uint64) []api.Record {
	items := [][]string{{"A=1", "B=1"}, {"A=1"}, {"B=2", "C=" + strings.Repeat("c", 90)}, {"A=2", "B=1"}, {"A=1", "B=2"}, {"A=1", "C=x"}, {"A=1", "D=0"}}
	var l []api.Record
	for i, n := range seqs {
		l = append(l, api.Record{Seq: n, Real: 1000 + n, Mono: 2*n + 1, Boot: n % 3, Items: slices.Clone(items[i%len(items)])})
	}
	return l
}

// made makes a file on a disk of its own.
func made(t *testing.T, h head.Head, l ...api.Record) (*vdisk.Disk, *File) {
	t.Helper()
	d := vdisk.New(1 << 14)
	f, e := Create(d, table, "x", h, 1<<20)
	if e != api.OK {
		t.Fatal(e)
	}
	add(t, f, l...)
	return d, f
}

// add appends entries.
func add(t *testing.T, f *File, l ...api.Record) {
	t.Helper()
	for _, r := range l {
		if e := f.Append(r); e != api.OK {
			t.Fatal(r, e)
		}
	}
}

// safe makes a file's entries safe.
func safe(t *testing.T, f *File) {
	t.Helper()
	if e := f.Sync(); e != api.OK {
		t.Fatal(e)
	}
}

// written puts a file's bytes on a disk of its own, safe.
func written(t *testing.T, b []byte) *vdisk.Disk {
	t.Helper()
	d := vdisk.New(1 << 14)
	if d.Create("x") != api.OK || d.Write("x", 0, b) != api.OK || d.Sync("x") != api.OK || d.SyncDir() != api.OK {
		t.Fatal("no disk")
	}
	return d
}

func same(a, b []api.Record) bool { return slices.EqualFunc(a, b, entry.Same) }

// must holds what a file tells against what it should have.
func must(t *testing.T, f *File, state uint64, loose int, l ...api.Record) {
	t.Helper()
	first, last := uint64(0), uint64(0)
	if len(l) > 0 {
		first, last = l[0].Seq, l[len(l)-1].Seq
	}
	if !same(f.Entries(), l) || f.Count() != len(l) || f.First() != first || f.Last() != last {
		t.Error("it tells", f.Entries(), f.Count(), f.First(), f.Last(), "not", l)
	}
	if f.State() != state || f.Loose() != loose {
		t.Error("state", f.State(), "not", state, "loose", f.Loose(), "not", loose)
	}
	if c := f.Change(); len(c.Fresh) > 0 || len(c.Words) > 0 {
		t.Error("something is left changed", c)
	}
}

// P20.1: what a new file has, in memory and on the disk, all of it safe.
func TestCreate(t *testing.T) {
	for _, h := range []head.Head{one, {Data: 1, Fields: 1}, {ID: math.MaxUint64, Key: math.MaxUint64, Data: 256, Fields: 256, Made: math.MaxUint64}, {Data: 1, Fields: 256}} {
		d, f := made(t, h)
		must(t, f, slot.Online, 0)
		if f.Name() != "x" || f.Head() != h || f.Tail() != 256+8*h.Data+8*h.Fields || !bytes.Equal(f.Bytes(), with(t, h).Bytes()) {
			t.Error(f.Name(), f.Head(), f.Tail())
		}
		want := laid(with(t, h), slot.Slot{Turn: 1, Tail: uint64(f.Tail()), State: slot.Online})
		if d.Loose() != 0 || !bytes.Equal(content(t, d.Crash(), "x"), want) {
			t.Error(h, "is not safe on the disk")
		}
		g, e := Open(d, table, "x", 1<<20)
		if e != api.OK {
			t.Fatal(e)
		}
		must(t, g, slot.Online, 0)
	}
}

// P20.1: another name, another limit, beside another file.
func TestCreateBesideAnother(t *testing.T) {
	d, f := made(t, one, records(3, 4)...)
	was := content(t, d, "x")
	g, e := Create(d, table, "another", head.Head{Data: 1, Fields: 1}, 400)
	if e != api.OK || g.Name() != "another" || !slices.Equal(d.Names(), []string{"another", "x"}) {
		t.Fatal(e)
	}
	must(t, g, slot.Online, 0)
	must(t, f, slot.Online, 2, records(3, 4)...)
	if !bytes.Equal(content(t, d, "x"), was) {
		t.Error("the other one has changed")
	}
	// Of 400 bytes 272 are taken; A=1, A, the entry and two arrays' one take 64, 48, 64 and 56.
	if e := g.Append(records(1)[0]); e != api.ErrFile {
		t.Error(e)
	}
	must(t, g, slot.Online, 0)
}

// P20.1: the limit is the image's: of each byte.
func TestLimit(t *testing.T) {
	r := api.Record{Seq: 1, Items: []string{"A=1"}}
	need := with(t, one, r).Tail()
	for _, limit := range []int{math.MinInt, -1, 0, 304, 305, need - 8, need - 1} {
		f, e := Create(vdisk.New(100), table, "x", one, limit)
		if e != api.OK || f.Append(r) != api.ErrFile {
			t.Error(limit, e)
		}
		g, e := Open(written(t, laid(with(t, one), slot.Slot{Turn: 1, Tail: 304, State: slot.Online})), table, "x", limit)
		if e != api.OK || g.Append(r) != api.ErrFile {
			t.Error(limit, e)
		}
	}
	for _, limit := range []int{need, need + 1, 1 << 20, math.MaxInt} {
		f, e := Create(vdisk.New(100), table, "x", one, limit)
		if e != api.OK || f.Append(r) != api.OK {
			t.Error(limit, e)
		}
		g, e := Open(written(t, laid(with(t, one), slot.Slot{Turn: 1, Tail: 304, State: slot.Online})), table, "x", limit)
		if e != api.OK || g.Append(r) != api.OK {
			t.Error(limit, e)
		}
	}
}

// P20.1: errors, in their order.
func TestCreateErrors(t *testing.T) {
	if f, e := Create(nil, table, "x", one, 1<<20); f != nil || e != api.ErrArg {
		t.Error(f, e)
	}
	for _, n := range []int{math.MinInt, -1 << 32, -256, -1, 0, 257, 1 << 32, 1<<32 | 4, math.MaxInt} {
		for _, h := range []head.Head{{Data: n, Fields: 2}, {Data: 4, Fields: n}, {Data: n, Fields: n}} {
			dead, taken := vdisk.New(0), vdisk.New(0)
			dead.Arm(0)
			dead.Create("y")
			taken.Create("x")
			for _, d := range []*vdisk.Disk{nil, vdisk.New(100), vdisk.New(0), dead, taken} {
				if f, e := Create(d, table, "x", h, 1<<20); f != nil || e != api.ErrArg {
					t.Error(h, f, e)
				}
			}
			if taken.Loose() != 1 {
				t.Error("something was done")
			}
		}
	}
	d, f := made(t, one, records(1)...)
	was := content(t, d, "x")
	loose := d.Loose()
	if g, e := Create(d, table, "x", head.Head{Data: 1, Fields: 1}, 1<<20); g != nil || e != api.ErrTwice {
		t.Error(g, e)
	}
	for _, name := range []string{"", "a/b", "a b", "ä", strings.Repeat("x", 101), "x\x00"} {
		if g, e := Create(d, table, name, one, 1<<20); g != nil || e != api.ErrArg {
			t.Error(name, g, e)
		}
	}
	if !bytes.Equal(content(t, d, "x"), was) || d.Loose() != loose || !slices.Equal(d.Names(), []string{"x"}) {
		t.Error("what is refused has changed something")
	}
	must(t, f, slot.Online, 1, records(1)...)
}

// P20.1: where there is no room for a file without entries, there is no name, either.
func TestCreateWantsRoom(t *testing.T) {
	for _, h := range []head.Head{one, {Data: 1, Fields: 1}, {Data: 256, Fields: 256}, {Data: 4, Fields: 4}} {
		need := (256 + 8*h.Data + 8*h.Fields + 63) / 64
		for room := range need {
			for _, other := range []int{0, 3} {
				d := vdisk.New(room + other)
				d.Create("o")
				d.Write("o", 0, make([]byte, 64*other))
				f, e := Create(d, table, "x", h, 1<<20)
				if f != nil || e != api.ErrSpace || d.Dead() {
					t.Error(h, room, f, e)
				}
				if !slices.Equal(d.Names(), []string{"o"}) || d.Used() != other {
					t.Error(h, room, d.Names(), d.Used())
				}
				d.Unlink("o")
				if _, e := Create(d, table, "x", h, 1<<20); (e == api.OK) != (room+other >= need) {
					t.Error("later", h, room, other, e)
				}
			}
		}
		d := vdisk.New(need)
		f, e := Create(d, table, "x", h, 1<<20)
		if e != api.OK || d.Used() != need || f.Sync() != api.OK || f.Archive() != api.OK {
			t.Error(h, e)
		}
	}
}

// P20.1: the name goes by one change, behind the two that are refused or not; where the disk stops at that, it is full nevertheless.
func TestCreateWantsRoomAndStops(t *testing.T) {
	for n, want := range []api.Errno{api.ErrDead, api.ErrDead, api.ErrSpace, api.ErrSpace} {
		d := vdisk.New(4)
		d.Arm(n)
		f, e := Create(d, table, "x", one, 1<<20)
		if f != nil || e != want || d.Dead() != (n < 3) {
			t.Error(n, f, e, d.Dead())
		}
	}
}

// P20.1, P20.5: a disk that stops at each change: nothing is told, and what is left is no file, one that can't be opened, or one without entries.
func TestCreateStops(t *testing.T) {
	const changes = 6
	end := slot.Slot{Turn: 1, Tail: 304, State: slot.Online}
	on := [][]byte{nil, {}, with(t, one).Bytes(), with(t, one).Bytes(), laid(with(t, one), end), laid(with(t, one), end)}
	for n := range changes {
		d := vdisk.New(100)
		d.Arm(n)
		f, e := Create(d, table, "x", one, 1<<20)
		if f != nil || e != api.ErrDead {
			t.Error(n, f, e)
		}
		if n > 0 && !bytes.Equal(content(t, d, "x"), on[n]) {
			t.Error(n, content(t, d, "x"))
		}
		if n == 0 && d.Loose() != 0 {
			t.Error("something was done")
		}
		for keep := range 1 << d.Loose() {
			left := d.Crash(bits(keep, d.Loose())...)
			g, e := Open(left, table, "x", 1<<20)
			if e == api.OK {
				must(t, g, slot.Online, 0)
			} else if e != api.ErrNone && e != api.ErrBad {
				t.Error(n, keep, e)
			}
		}
	}
	d := vdisk.New(100)
	d.Arm(changes)
	if _, e := Create(d, table, "x", one, 1<<20); e != api.OK || d.Loose() != 0 || d.Dead() {
		t.Error(e)
	}
}

// bits are the bits of a number, the least one first.
func bits(x, n int) []bool {
	l := make([]bool, n)
	for i := range l {
		l[i] = x>>i&1 == 1
	}
	return l
}

// P20.1: errors of Open.
func TestOpenErrors(t *testing.T) {
	if f, e := Open(nil, table, "x", 1<<20); f != nil || e != api.ErrNil {
		t.Error(f, e)
	}
	d, f := made(t, one, records(1, 2)...)
	safe(t, f)
	for _, name := range []string{"", "y", "X", "x ", strings.Repeat("x", 101)} {
		if f, e := Open(d, table, name, 1<<20); f != nil || e != api.ErrNone {
			t.Error(name, f, e)
		}
	}
	d.Arm(0)
	d.SyncDir()
	for _, name := range []string{"x", "y"} {
		if f, e := Open(d, table, name, 1<<20); f != nil || e != api.ErrDead {
			t.Error(name, f, e)
		}
	}
}

// P20.1: what can't be opened: whatever of a file is another byte, or isn't there.
func TestOpenBad(t *testing.T) {
	d, f := made(t, one, records(1, 2, 3)...)
	safe(t, f)
	add(t, f, records(1, 2, 3, 8)[3])
	good, tail := content(t, d, "x"), with(t, one, records(1, 2, 3)...).Tail()
	bad := func(what string, at int, b []byte) {
		t.Helper()
		d := written(t, b)
		// One that can't be opened isn't changed: an armed disk doesn't stop.
		d.Arm(0)
		if f, e := Open(d, table, "x", 1<<20); f != nil || e != api.ErrBad || d.Dead() {
			t.Error(what, at, f, e)
		}
	}
	bad("empty", 0, nil)
	bad("noughts", 0, make([]byte, len(good)))
	bad("no slot", 0, with(t, one, records(1, 2, 3)...).Bytes())
	for n := range tail {
		bad("cut", n, good[:n])
	}
	for at := range 64 {
		b := slices.Clone(good)
		b[at] ^= 1
		bad("header", at, b)
	}
	for at := range 64 {
		b := slices.Clone(good)
		clear(b[128:192])
		b[64+at] ^= 1
		bad("slot", at, b)
	}
	for _, at := range []int{304, 312, 368, 376} {
		b := slices.Clone(good)
		b[at] ^= 1
		bad("object", at, b)
	}
	if _, e := Open(written(t, good[:tail]), table, "x", 1<<20); e != api.OK {
		t.Error(e)
	}
}

// P20.1: of what was appended since the slot nothing is there; the words that lead there are noughts on the disk, too, one change each.
func TestOpenCuts(t *testing.T) {
	l := records(1, 3, 4, 8, 9, 10, 12)
	for n := range len(l) {
		d, f := made(t, one, l[:n]...)
		safe(t, f)
		add(t, f, l[n:]...)
		was, old := content(t, d, "x"), with(t, one, l[:n]...)
		words := differing(was, old.Bytes())
		for k := range len(words) + 1 {
			x := whole(d)
			x.Arm(k)
			g, e := Open(x, table, "x", 1<<20)
			want := slices.Clone(was)
			for _, at := range words[:k] {
				clear(want[at : at+8])
			}
			if !bytes.Equal(content(t, x, "x"), want) {
				t.Error("behind", k, "changes the disk has something else")
			}
			if k < len(words) {
				if g != nil || e != api.ErrDead {
					t.Error(n, k, g, e)
				}
				continue
			}
			if e != api.OK || x.Dead() {
				t.Fatal(n, k, e)
			}
			must(t, g, slot.Online, 0, l[:n]...)
			s := slot.Slot{Turn: 2, Tail: uint64(old.Tail()), Count: uint64(n), State: slot.Online}
			if n > 0 {
				s.First, s.Last = l[0].Seq, l[n-1].Seq
			}
			if !bytes.Equal(g.Bytes(), laid(old, slot.Slot{Turn: 1, Tail: 304, State: slot.Online}, s)) {
				t.Error(n, "the image is another one")
			}
		}
	}
}

// P20.1: words of whatever number are noughts, all their bytes.
func TestOpenCutsFarWords(t *testing.T) {
	m := with(t, one)
	for _, n := range []uint64{304, 1 << 32, 1<<32 | 8, 1 << 56, 1 << 63, math.MaxUint64} {
		b := laid(m, slot.Slot{Turn: 1, Tail: 304, State: slot.Online})
		for at := 192; at < 304; at += 8 {
			if at == 192 || at >= 256 {
				copy(b[at:], le.Bytes(n, 8))
			}
		}
		d := written(t, b)
		f, e := Open(d, table, "x", 1<<20)
		if e != api.OK || !bytes.Equal(content(t, d, "x"), laid(m, slot.Slot{Turn: 1, Tail: 304, State: slot.Online})) {
			t.Fatal(n, e)
		}
		add(t, f, records(1)...)
		must(t, f, slot.Online, 1, records(1)...)
	}
}

// differing tells the words of a file, behind its slots, that are 0 in an older one.
func differing(now, old []byte) []int {
	var l []int
	for at := 192; at+8 <= len(old); at += 8 {
		if !bytes.Equal(now[at:at+8], old[at:at+8]) {
			l = append(l, at)
		}
	}
	return l
}

// P20.1: a file that is safe as it is isn't written; what is behind its end doesn't count.
func TestOpenWritesNothing(t *testing.T) {
	l := records(1, 2, 3)
	d, f := made(t, one, l...)
	safe(t, f)
	b := content(t, d, "x")
	for _, more := range [][]byte{nil, make([]byte, 7), bytes.Repeat([]byte{255}, 300)} {
		d := written(t, append(slices.Clone(b), more...))
		d.Arm(0)
		g, e := Open(d, table, "x", 1<<20)
		if e != api.OK || d.Dead() || d.Loose() != 0 {
			t.Fatal(e)
		}
		must(t, g, slot.Online, 0, l...)
		if g.Name() != "x" || g.Head() != one || g.Tail() != f.Tail() {
			t.Error(g.Name(), g.Head(), g.Tail())
		}
	}
}

// P20.2: entries stand behind one another, on the disk, too; numbers must rise.
func TestAppend(t *testing.T) {
	for _, seqs := range [][]uint64{{0, 1, 2, 5, 6, 7, 8, 9, 10, 11, 12, 13}, {7}, {math.MaxUint64 - 1, math.MaxUint64}, {0, 1 << 63, math.MaxUint64}} {
		l := records(seqs...)
		d, f := made(t, one)
		for i, r := range l {
			kept := slices.Clone(r.Items)
			if e := f.Append(r); e != api.OK || !slices.Equal(r.Items, kept) {
				t.Fatal(r, e)
			}
			must(t, f, slot.Online, i+1, l[:i+1]...)
			m := with(t, one, l[:i+1]...)
			if !bytes.Equal(f.Bytes(), m.Bytes()) || !bytes.Equal(content(t, d, "x"), laid(m, slot.Slot{Turn: 1, Tail: 304, State: slot.Online})) {
				t.Error(seqs, i, "the file is another one")
			}
			for _, n := range []uint64{0, 1, r.Seq - 1, r.Seq} {
				if n <= r.Seq && f.Append(api.Record{Seq: n, Items: []string{"N=1"}}) != api.ErrSeq {
					t.Error(n, "is taken behind", r.Seq)
				}
			}
			must(t, f, slot.Online, i+1, l[:i+1]...)
		}
	}
}

// Memory: what is handed in may be changed later.
func TestAppendKeepsNothing(t *testing.T) {
	_, f := made(t, one)
	items := append(make([]string, 0, 10), "B=1", "A=1", "A=1")
	if f.Append(api.Record{Seq: 1, Items: items}) != api.OK || !slices.Equal(items, []string{"B=1", "A=1", "A=1"}) || items[:4][3] != "" {
		t.Error(items[:4])
	}
	items[0] = "C=1"
	got := f.Entries()
	if !slices.Equal(got[0].Items, []string{"A=1", "B=1"}) {
		t.Error(got)
	}
	got[0].Items[0], got[0].Seq = "Z=1", 9
	must(t, f, slot.Online, 1, api.Record{Seq: 1, Items: []string{"A=1", "B=1"}})
}

// P20.2: entries are refused by the first error that the chapter names.
func TestAppendErrors(t *testing.T) {
	long := strings.Repeat("x", 1024)
	var many []string
	for i := range 65 {
		many = append(many, "A="+strings.Repeat("x", i))
	}
	wrong := []struct {
		items []string
		want  api.Errno
	}{
		{[]string{"bad"}, api.ErrName}, {[]string{"A=1", "=2"}, api.ErrName}, {[]string{"A=" + long}, api.ErrBig}, {many, api.ErrBig}, {nil, api.ErrArg},
	}
	d, f := made(t, one, records(5)...)
	limited, e := Create(d, table, "full", one, f.Tail())
	if e != api.OK {
		t.Fatal(e)
	}
	add(t, limited, records(5)...)
	archived, e := Create(d, table, "archived", one, 1<<20)
	if e != api.OK {
		t.Fatal(e)
	}
	add(t, archived, records(5)...)
	if archived.Archive() != api.OK {
		t.Fatal("not archived")
	}
	for range 2 {
		for _, c := range wrong {
			for _, n := range []uint64{0, 4, 5, 6} {
				want := c.want
				if n <= 5 {
					want = api.ErrSeq
				}
				for _, f := range []*File{f, limited} {
					if e := f.Append(api.Record{Seq: n, Items: c.items}); e != want {
						t.Error(n, len(c.items), e, "not", want)
					}
				}
				if e := archived.Append(api.Record{Seq: n, Items: c.items}); e != api.ErrRead {
					t.Error(n, len(c.items), e)
				}
			}
		}
		if e := limited.Append(api.Record{Seq: 6, Items: []string{"A=1"}}); e != api.ErrFile {
			t.Error(e)
		}
		if e := limited.Append(api.Record{Seq: 5, Items: []string{"A=1"}}); e != api.ErrSeq {
			t.Error(e)
		}
		must(t, f, slot.Online, 1, records(5)...)
		must(t, limited, slot.Online, 1, records(5)...)
		must(t, archived, slot.Archived, 0, records(5)...)
		// And the same of a disk that has stopped.
		d.Arm(0)
		d.SyncDir()
	}
	if e := f.Append(api.Record{Seq: 6, Items: []string{"A=1"}}); e != api.ErrDead {
		t.Error(e)
	}
	must(t, f, slot.Online, 1, records(5)...)
}

// P20.2: what was changed is written: the bytes behind the old end, and then word by word; wherever the disk stops, the entries are as they were, and a crash leaves what is safe.
func TestAppendStops(t *testing.T) {
	l := records(1, 3, 4, 8, 9, 10, 12)
	for n, r := range l {
		old := with(t, one, l[:n]...)
		old.Done()
		if _, e := entry.Add(old, r); e != api.OK {
			t.Fatal(e)
		}
		c := old.Change()
		for k := range len(c.Words) + 2 {
			d, f := made(t, one, l[:n]...)
			safe(t, f)
			want := content(t, d, "x")
			d.Arm(k)
			e := f.Append(r)
			if k > 0 {
				want = append(want, c.Fresh...)
				for _, w := range c.Words[:k-1] {
					copy(want[w.At:], w.B)
				}
			}
			if !bytes.Equal(content(t, d, "x"), want) {
				t.Error(n, k, "the disk has something else")
			}
			if k == len(c.Words)+1 {
				if e != api.OK || d.Dead() {
					t.Error(n, k, e)
				}
				must(t, f, slot.Online, 1, l[:n+1]...)
				continue
			}
			if e != api.ErrDead || f.Append(r) != api.ErrDead || f.Sync() != api.ErrDead || f.Archive() != api.ErrDead {
				t.Error(n, k, e)
			}
			must(t, f, slot.Online, 0, l[:n]...)
			if !bytes.Equal(f.Bytes(), with(t, one, l[:n]...).Bytes()) {
				t.Error(n, k, "the image is another one")
			}
			g, e := Open(whole(d), table, "x", 1<<20)
			if e != api.OK {
				t.Fatal(n, k, e)
			}
			must(t, g, slot.Online, 0, l[:n]...)
		}
	}
}

// P20.2: where the disk is full nothing is written; where there is room again, the file goes on.
func TestAppendWantsRoom(t *testing.T) {
	l := records(1, 3, 4, 8, 9, 10, 12)
	for n, r := range l {
		need := (with(t, one, l[:n+1]...).Tail() + 63) / 64
		has := (with(t, one, l[:n]...).Tail() + 63) / 64
		for room := has; room < need; room++ {
			d := vdisk.New(room)
			f, e := Create(d, table, "x", one, 1<<20)
			if e != api.OK {
				t.Fatal(e)
			}
			add(t, f, l[:n]...)
			was, loose := content(t, d, "x"), d.Loose()
			for range 2 {
				if e := f.Append(r); e != api.ErrSpace {
					t.Error(n, room, e)
				}
			}
			must(t, f, slot.Online, n, l[:n]...)
			if !bytes.Equal(content(t, d, "x"), was) || d.Loose() != loose || !bytes.Equal(f.Bytes(), with(t, one, l[:n]...).Bytes()) {
				t.Error(n, room, "what is refused has changed something")
			}
			if f.Sync() != api.OK || f.Archive() != api.OK {
				t.Error("a full disk doesn't take slots")
			}
		}
		d := vdisk.New(need)
		d.Create("o")
		d.Write("o", 0, make([]byte, 64*(need-has)))
		f, e := Create(d, table, "x", one, 1<<20)
		if e != api.OK {
			t.Fatal(e)
		}
		for _, r := range l[:n] {
			if e := f.Append(r); e != api.OK {
				t.Fatal(e)
			}
		}
		if need > has && f.Append(r) != api.ErrSpace {
			t.Error("there is room")
		}
		d.Unlink("o")
		add(t, f, r)
		safe(t, f)
		must(t, f, slot.Online, 0, l[:n+1]...)
		if rep, e := verify.Check(table, content(t, d, "x")); e != api.OK || rep.Entries != n+1 {
			t.Error(rep, e)
		}
	}
}

// P20.3: each Sync writes a slot of the next turn, in turn at the two places, though nothing is new.
func TestSync(t *testing.T) {
	l := records(2, 3, 4, 8, 9, 10, 12)
	d, f := made(t, one)
	slots := []slot.Slot{{Turn: 1, Tail: 304, State: slot.Online}}
	sync := func(n int) {
		t.Helper()
		s := slot.Slot{Turn: slots[0].Turn + 1, Tail: uint64(f.Tail()), Count: uint64(n), State: slot.Online}
		if n > 0 {
			s.First, s.Last = 2, l[n-1].Seq
		}
		slots = []slot.Slot{s, slots[0]}
		safe(t, f)
		must(t, f, slot.Online, 0, l[:n]...)
		if want := laid(with(t, one, l[:n]...), slots...); d.Loose() != 0 || !bytes.Equal(content(t, d.Crash(), "x"), want) {
			t.Error(n, "is not safe, or another slot is")
		}
		r, e := verify.Check(table, content(t, d, "x"))
		if e != api.OK || r.Entries != n || r.State != slot.Online {
			t.Error(r, e)
		}
	}
	sync(0)
	sync(0)
	for i := range l {
		add(t, f, l[i])
		must(t, f, slot.Online, 1, l[:i+1]...)
		for range i % 3 {
			sync(i + 1)
		}
		if f.Loose() > 0 {
			sync(i + 1)
		}
		if i%2 == 1 {
			g, e := Open(d, table, "x", 1<<20)
			if e != api.OK {
				t.Fatal(e)
			}
			f = g
			must(t, f, slot.Online, 0, l[:i+1]...)
		}
	}
}

// P20.3: the bytes are safe ahead of the slot; wherever the disk stops, what was safe is.
func TestSyncStops(t *testing.T) {
	l := records(2, 3, 4, 8)
	for _, state := range []uint64{slot.Online, slot.Archived} {
		for k := range 4 {
			d, f := made(t, one, l[:2]...)
			safe(t, f)
			add(t, f, l[2:]...)
			loose := d.Loose()
			d.Arm(k)
			e := save(f, state)
			// None is done, the first Sync, the slot's Write, and the second Sync.
			pending := []int{loose, 0, 1, 0}[k]
			if d.Loose() != pending {
				t.Error(k, d.Loose(), "not", pending)
			}
			if k == 3 {
				if e != api.OK || d.Dead() {
					t.Error(e)
				}
				must(t, f, state, 0, l...)
			} else {
				if e != api.ErrDead {
					t.Error(k, e)
				}
				must(t, f, slot.Online, 2, l...)
			}
			if k == 1 || k == 2 {
				b := laid(with(t, one, l...), slot.Slot{Turn: 1, Tail: 304, State: slot.Online}, slot.Slot{Turn: 2, Tail: uint64(with(t, one, l[:2]...).Tail()), Count: 2, First: 2, Last: 3, State: slot.Online})
				if !bytes.Equal(content(t, d.Crash(), "x"), b) {
					t.Error(k, "something else is safe")
				}
			}
			for keep := range 1 << min(pending, 10) {
				left := d.Crash(bits(keep, min(pending, 10))...)
				g, e := Open(left, table, "x", 1<<20)
				if e != api.OK {
					t.Fatal(k, keep, e)
				}
				if k == 3 || k == 2 && keep == 1 {
					must(t, g, state, 0, l...)
				} else {
					must(t, g, slot.Online, 0, l[:2]...)
				}
			}
		}
	}
}

// save makes a file safe, with a state.
func save(f *File, state uint64) api.Errno {
	if state == slot.Archived {
		return f.Archive()
	}
	return f.Sync()
}

// P20.3: the disk's errors come again: an Archive that wasn't done isn't taken as done.
func TestSyncOnceMore(t *testing.T) {
	l := records(2, 3)
	for k := range 3 {
		d, f := made(t, one, l...)
		d.Arm(k)
		for _, state := range []uint64{slot.Archived, slot.Archived, slot.Online, slot.Online} {
			if e := save(f, state); e != api.ErrDead {
				t.Error(k, state, e)
			}
			must(t, f, slot.Online, 2, l...)
		}
		if e := f.Append(records(2, 3, 4)[2]); e != api.ErrDead {
			t.Error(e)
		}
	}
	d, f := made(t, one, l...)
	d.Unlink("x")
	for _, state := range []uint64{slot.Archived, slot.Online} {
		if e := save(f, state); e != api.ErrNone {
			t.Error(e)
		}
	}
	if e := f.Append(records(2, 3, 4)[2]); e != api.ErrNone {
		t.Error(e)
	}
	must(t, f, slot.Online, 2, l...)
}

// P20.3: an archived file takes no more, and is not written.
func TestArchive(t *testing.T) {
	for n := range 4 {
		l := records(2, 3, 4)[:n]
		d, f := made(t, one, l...)
		if e := f.Archive(); e != api.OK || d.Loose() != 0 {
			t.Fatal(e)
		}
		s := slot.Slot{Turn: 2, Tail: uint64(f.Tail()), Count: uint64(n), State: slot.Archived}
		if n > 0 {
			s.First, s.Last = 2, l[n-1].Seq
		}
		want := laid(with(t, one, l...), slot.Slot{Turn: 1, Tail: 304, State: slot.Online}, s)
		g, e := Open(d.Crash(), table, "x", 1<<20)
		if e != api.OK {
			t.Fatal(e)
		}
		d.Arm(0)
		for _, f := range []*File{f, g} {
			if f.Append(api.Record{Seq: 9, Items: []string{"A=1"}}) != api.ErrRead || f.Sync() != api.OK || f.Archive() != api.OK {
				t.Error("it does something")
			}
			must(t, f, slot.Archived, 0, l...)
		}
		if d.Dead() || !bytes.Equal(content(t, d, "x"), want) {
			t.Error(n, "the file has changed, or is another one")
		}
		if r, e := verify.Check(table, want); e != api.OK || r.Entries != n || r.State != slot.Archived {
			t.Error(r, e)
		}
		// A disk that has stopped isn't asked.
		d.SyncDir()
		if !d.Dead() || f.Sync() != api.OK || f.Archive() != api.OK {
			t.Error("it does something")
		}
	}
}

// P20.4: all calls go by the name that was told last.
func TestRenamed(t *testing.T) {
	l := records(2, 3, 4)
	d, f := made(t, one, l[0])
	safe(t, f)
	if d.Rename("x", "y") != api.OK || d.Create("x") != api.OK {
		t.Fatal("not renamed")
	}
	f.Renamed("y")
	if f.Name() != "y" {
		t.Error(f.Name())
	}
	add(t, f, l[1])
	if f.Sync() != api.OK || d.Rename("y", "z") != api.OK {
		t.Error("sync")
	}
	if e := f.Append(l[2]); e != api.ErrNone || f.Sync() != api.ErrNone || f.Name() != "y" {
		t.Error(e, f.Name())
	}
	must(t, f, slot.Online, 0, l[:2]...)
	f.Renamed("q")
	f.Renamed("z")
	add(t, f, l[2])
	if f.Name() != "z" || f.Archive() != api.OK {
		t.Error(f.Name())
	}
	if n, e := d.Size("x"); n != 0 || e != api.OK {
		t.Error("the old name's file has", n, e)
	}
	g, e := Open(d, table, "z", 1<<20)
	if e != api.OK || g.Name() != "z" {
		t.Fatal(e)
	}
	must(t, g, slot.Archived, 0, l...)
	must(t, f, slot.Archived, 0, l...)
}

// P20.4: what the slot tells of counts as told, whatever it is; what it tells of the file's numbers doesn't.
func TestSlotsOfOthers(t *testing.T) {
	l := records(2, 3, 4)
	m := with(t, one, l...)
	for _, n := range []uint64{0, 1, 2, 3, 4, 1 << 32, 1<<32 | 1, 1 << 63, 1<<63 | 1, math.MaxUint64} {
		s := slot.Slot{Turn: 5, Tail: uint64(m.Tail()), Count: n, First: 77, Last: 99, State: slot.Online}
		d := written(t, laid(m, s))
		f, e := Open(d, table, "x", 1<<20)
		if e != api.OK {
			t.Fatal(e)
		}
		must(t, f, slot.Online, int(3-min(n, 3)), l...)
		safe(t, f)
		must(t, f, slot.Online, 0, l...)
		want := slot.Slot{Turn: 6, Tail: uint64(m.Tail()), Count: 3, First: 2, Last: 4, State: slot.Online}
		if !bytes.Equal(content(t, d, "x"), laid(m, s, want)) {
			t.Error(n, "another slot")
		}
	}
}

// P20.3, P20.5: turns of whatever number go on; behind the greatest one the entries are safe, too.
func TestGreatTurns(t *testing.T) {
	l := records(2, 3, 4, 8, 9)
	m := with(t, one, l[0])
	for _, turn := range []uint64{1, 2, 1<<32 - 1, 1 << 32, 1<<63 - 1, 1 << 63, math.MaxUint64 - 3, math.MaxUint64 - 2, math.MaxUint64 - 1, math.MaxUint64} {
		slots := []slot.Slot{{Turn: turn, Tail: uint64(m.Tail()), Count: 1, First: 2, Last: 2, State: slot.Online}}
		if turn > 1 {
			slots = append(slots, slot.Slot{Turn: turn - 1, Tail: 304, State: slot.Online})
		}
		d := written(t, laid(m, slots...))
		f, e := Open(d, table, "x", 1<<20)
		if e != api.OK {
			t.Fatal(e)
		}
		for i := 1; i < len(l); i++ {
			add(t, f, l[i])
			ahead, e := Open(whole(d), table, "x", 1<<20)
			if e != api.OK {
				t.Fatal(e)
			}
			must(t, ahead, slot.Online, 0, l[:i]...)
			safe(t, f)
			behind, e := Open(d.Crash(), table, "x", 1<<20)
			if e != api.OK {
				t.Fatal(e)
			}
			must(t, behind, slot.Online, 0, l[:i+1]...)
			s, ok := slot.Choose(table, content(t, d, "x"))
			if turn < math.MaxUint64-5 && (!ok || s.Turn != turn+uint64(i)) {
				t.Error(turn, i, s)
			}
		}
	}
}

func TestNil(t *testing.T) {
	var f *File
	r := api.Record{Seq: 1, Items: []string{"A=1"}}
	if f.Append(r) != api.ErrNil || f.Append(api.Record{}) != api.ErrNil || f.Sync() != api.ErrNil || f.Archive() != api.ErrNil {
		t.Error("it takes something")
	}
	f.Renamed("x")
	if f.Name() != "" || f.State() != 0 || f.Count() != 0 || f.First() != 0 || f.Last() != 0 || f.Loose() != 0 || len(f.Entries()) != 0 {
		t.Error("it has something")
	}
}

// Files that nobody made so, whose words lead anywhere: nothing is promised of them but that all calls end.
func TestWordsThatLeadAnywhere(t *testing.T) {
	m := with(t, one, records(2, 3, 4, 8, 9, 10, 12)...)
	s := slot.Slot{Turn: 1, Tail: uint64(m.Tail()), Count: 7, First: 2, Last: 12, State: slot.Online}
	for at := 192; at < m.Tail(); at += 8 {
		for _, n := range []byte{0, 1, 2, 3} {
			b := laid(m, s)
			copy(b[at:], [][]byte{make([]byte, 8), {48, 1, 0, 0, 0, 0, 0, 0}, bytes.Repeat([]byte{255}, 8), {byte(at), byte(at >> 8), 0, 0, 0, 0, 0, 0}}[n])
			f, e := Open(written(t, b), table, "x", 1<<20)
			if e != api.OK {
				continue
			}
			f.First()
			f.Last()
			f.Loose()
			f.Entries()
			f.Append(api.Record{Seq: math.MaxUint64, Items: []string{"A=1", "Q=1"}})
			f.Sync()
			f.Archive()
		}
	}
}
