package jfile

import (
	"bytes"
	"math/rand"
	"slices"
	"strconv"
	"testing"

	"logbook/api"
	"logbook/crc"
	"logbook/entry"
	"logbook/head"
	"logbook/image"
	"logbook/slot"
	"logbook/vdisk"
	"logbook/verify"
)

// slow is the chapter's file, as a list of its entries: what it should be is made anew from them each time.
type slow struct {
	h     head.Head
	limit int
	name  string
	l     []api.Record
	// told are the slots, the last one first.
	told []slot.Slot
	// saving is the slot that was to be written when the disk stopped.
	saving []slot.Slot
}

// image is the file as entry.Add makes it of the entries.
func (s *slow) image(more ...api.Record) (*image.Image, api.Errno) {
	m := image.New(crc.Make(), s.h, s.limit)
	for _, r := range append(slices.Clone(s.l), more...) {
		m.Done()
		if _, e := entry.Add(m, r); e != api.OK {
			return nil, e
		}
	}
	return m, api.OK
}

// appended tells what Append of an entry answers, if the disk has room for so many sectors in this file, and doesn't stop.
func (s *slow) appended(r api.Record, room int) api.Errno {
	if s.told[0].State == slot.Archived {
		return api.ErrRead
	}
	if n := len(s.l); n > 0 && s.l[n-1].Seq >= r.Seq {
		return api.ErrSeq
	}
	m, e := s.image(r)
	if e != api.OK {
		return e
	}
	if (m.Tail()+63)/64 > room {
		return api.ErrSpace
	}
	r.Items = slices.Compact(slices.Sorted(slices.Values(r.Items)))
	s.l = append(s.l, r)
	return api.OK
}

// next is the slot that a call makes of the entries.
func (s *slow) next(state uint64) slot.Slot {
	m, _ := s.image()
	n := slot.Slot{Turn: 1, Tail: uint64(m.Tail()), Count: uint64(len(s.l)), State: state}
	if len(s.told) > 0 {
		n.Turn += s.told[0].Turn
	}
	if len(s.l) > 0 {
		n.First, n.Last = s.l[0].Seq, s.l[len(s.l)-1].Seq
	}
	return n
}

// tell takes a slot as written.
func (s *slow) tell(n slot.Slot) { s.told = append([]slot.Slot{n}, s.told[:min(len(s.told), 1)]...) }

// sectors is how many the disk has room for.
const sectors = 80

// play is a file on a disk, beside another one that takes room, with what it should be.
type play struct {
	t *testing.T
	r *rand.Rand
	d *vdisk.Disk
	f *File
	s *slow
}

// check holds the file, and its bytes on the disk, against what they should be.
func (p *play) check() {
	p.t.Helper()
	m, _ := p.s.image()
	loose := len(p.s.l) - int(p.s.told[0].Count)
	must(p.t, p.f, p.s.told[0].State, loose, p.s.l...)
	if p.f.Name() != p.s.name || p.f.Head() != p.s.h || p.f.Tail() != m.Tail() {
		p.t.Error(p.f.Name(), p.f.Head(), p.f.Tail())
	}
	if !bytes.Equal(behindSlots(p.f.Bytes()), behindSlots(m.Bytes())) {
		p.t.Error("the image is another one")
	}
	if p.d.Dead() {
		return
	}
	b, e := p.d.Read(p.s.name, 0, 1<<20)
	if e != api.OK || len(b) < m.Tail() || !bytes.Equal(b[:m.Tail()], laid(m, p.s.told...)) {
		p.t.Error("the disk has something else", e)
	}
	r, e := verify.Loose(crc.Make(), b)
	if e != api.OK || r.Entries != int(p.s.told[0].Count) || r.State != p.s.told[0].State {
		p.t.Error("it isn't right by the verifier", r, e)
	}
}

// behindSlots is a file's bytes from its root on.
func behindSlots(b []byte) []byte { return b[192:] }

// step does one thing that is chosen by chance.
func (p *play) step() {
	if p.d.Dead() && p.r.Intn(3) == 0 {
		p.crash()
		return
	}
	switch n := p.r.Intn(200); {
	case n < 110:
		p.append()
	case n < 139:
		p.save(slot.Online)
	case n < 140:
		p.save(slot.Archived)
	case n < 150:
		to := "n" + strconv.Itoa(p.r.Intn(3))
		if p.d.Rename(p.s.name, to) == api.OK {
			p.f.Renamed(to)
			p.s.name = to
			p.d.SyncDir()
		}
	case n < 170:
		p.d.Truncate("other", 64*p.r.Intn(40))
	case n < 182:
		p.d.Arm(p.r.Intn(12))
	case n < 192:
		p.open()
	default:
		p.crash()
	}
}

// record is an entry that mostly may come next.
func (p *play) record() api.Record {
	r := api.Record{Seq: uint64(p.r.Intn(3)), Real: p.r.Uint64(), Mono: p.r.Uint64(), Boot: uint64(p.r.Intn(2))}
	if n := len(p.s.l); n > 0 {
		r.Seq += p.s.l[n-1].Seq
	}
	for range 1 + p.r.Intn(4) {
		r.Items = append(r.Items, string(rune('A'+p.r.Intn(5)))+"="+strconv.Itoa(p.r.Intn(4)))
	}
	if p.r.Intn(30) == 0 {
		r.Items = append(r.Items, "bad")
	}
	return r
}

func (p *play) append() {
	r := p.record()
	dead, was := p.d.Dead(), slices.Clone(p.s.l)
	room := p.room()
	e := p.f.Append(r)
	want := p.s.appended(r, room)
	if p.d.Dead() && e == api.ErrDead && (want == api.OK || want == api.ErrSpace) {
		p.s.l = was
		return
	}
	if e != want || dead && e == api.OK {
		p.t.Error(r, e, "not", want)
	}
}

// room is how many sectors the file may take: those that it has, or that no other one has.
func (p *play) room() int {
	x := whole(p.d)
	n, _ := x.Size(p.s.name)
	x.Truncate(p.s.name, 0)
	return max((n+63)/64, sectors-x.Used())
}

func (p *play) save(state uint64) {
	p.t.Helper()
	e := save(p.f, state)
	switch {
	case p.s.told[0].State == slot.Archived:
		if e != api.OK {
			p.t.Error(e)
		}
	case p.d.Dead():
		if e != api.ErrDead {
			p.t.Error(e)
		}
		p.s.saving = append(p.s.saving, p.s.next(state))
	case e != api.OK:
		p.t.Error(e)
	default:
		p.s.tell(p.s.next(state))
	}
}

// open opens the file anew, as it is: it is cut to what is safe.
func (p *play) open() {
	f, e := Open(p.d, crc.Make(), p.s.name, p.s.limit)
	if p.d.Dead() {
		if f != nil || e != api.ErrDead {
			p.t.Error(f, e)
		}
		return
	}
	if e != api.OK {
		p.t.Fatal(e)
	}
	p.f = f
	p.s.l = p.s.l[:p.s.told[0].Count]
}

// crash lets the disk stop, keeps some of what is pending, and opens the file again; that may stop, too.
func (p *play) crash() {
	keep := make([]bool, p.d.Loose())
	few := p.r.Intn(4)
	for i := range keep {
		keep[i] = p.r.Intn(4) < few
	}
	p.d = p.d.Crash(keep...)
	p.s.name = p.found()
	if p.r.Intn(3) == 0 {
		x := whole(p.d)
		x.Arm(p.r.Intn(4))
		if f, e := Open(x, crc.Make(), p.s.name, p.s.limit); (e == api.OK) != (f != nil) {
			p.t.Error(f, e)
		} else if e == api.ErrDead {
			p.d = x
			p.crash()
			return
		}
	}
	f, e := Open(p.d, crc.Make(), p.s.name, p.s.limit)
	if e != api.OK {
		p.t.Fatal("behind a crash", e)
	}
	// What was to be written when the disk stopped may be there.
	s, _ := slot.Choose(crc.Make(), f.Bytes())
	for _, n := range p.s.saving {
		if s == n {
			p.s.tell(s)
			break
		}
	}
	p.s.saving = nil
	p.s.l = p.s.l[:p.s.told[0].Count]
	p.f = f
}

// found is the name that a crash has left the file.
func (p *play) found() string {
	for _, name := range p.d.Names() {
		if name != "other" {
			return name
		}
	}
	p.t.Fatal("the file is gone")
	return ""
}

// P20.1 to P20.5: steps by chance, on a disk that may stop and crash at each, held against the chapter done on a list.
func TestChance(t *testing.T) {
	for seed := range int64(150) {
		r := rand.New(rand.NewSource(seed))
		p := &play{t: t, r: r, d: vdisk.New(sectors), s: &slow{
			h:     head.Head{ID: 7, Key: r.Uint64(), Data: 1 + r.Intn(9), Fields: 1 + r.Intn(4)},
			limit: 1000 + r.Intn(20000), name: "n0",
		}}
		p.d.Create("other")
		p.d.SyncDir()
		var e api.Errno
		if p.f, e = Create(p.d, crc.Make(), p.s.name, p.s.h, p.s.limit); e != api.OK {
			t.Fatal(e)
		}
		p.s.tell(p.s.next(slot.Online))
		for range 150 {
			p.step()
			p.check()
			if t.Failed() {
				t.Fatal("seed", seed)
			}
		}
	}
}

// did is one call of a row of them, and what it answered.
type did struct {
	save  bool
	state uint64
	r     api.Record
}

// P20.5: a row of calls, the disk stopping at each change, and each part of what is pending being kept, as far as these are few; else some by chance.
func TestEachCrash(t *testing.T) {
	l := records(2, 3, 4, 8, 9)
	row := []did{{r: l[0]}, {save: true, state: slot.Online}, {r: l[1]}, {r: l[2]}, {save: true, state: slot.Online}, {r: l[3]}, {r: l[4]}, {save: true, state: slot.Archived}}
	r := rand.New(rand.NewSource(20))
	for stop := 0; ; stop++ {
		d, f := made(t, one)
		d.Arm(stop)
		n, sure, maybe := 0, 0, 0
		for _, c := range row {
			if !c.save {
				if f.Append(c.r) == api.OK {
					n++
				}
				continue
			}
			if save(f, c.state) == api.OK {
				sure, maybe = n, n
			} else if !d.Dead() {
				t.Fatal("it isn't saved")
			} else {
				maybe = n
			}
		}
		for _, keep := range keeps(r, d.Loose()) {
			left := d.Crash(keep...)
			g, e := Open(left, table, "x", 1<<20)
			if e != api.OK || !same(g.Entries(), l[:g.Count()]) || g.Count() != sure && g.Count() != maybe {
				t.Fatal(stop, keep, e, g.Count(), "not", sure, maybe)
			}
			// What is opened goes on, and crashes again.
			if g.State() == slot.Online {
				add(t, g, api.Record{Seq: 100, Items: []string{"A=1", "N=1"}})
				safe(t, g)
			}
			b := content(t, left.Crash(), "x")
			if rep, e := verify.Loose(table, b); e != api.OK || rep.Entries != g.Count() {
				t.Fatal(stop, keep, rep, e)
			}
		}
		if !d.Dead() {
			return
		}
	}
}

// keeps are the parts of so many things that a crash may keep.
func keeps(r *rand.Rand, n int) [][]bool {
	var l [][]bool
	if n <= 8 {
		for x := range 1 << n {
			l = append(l, bits(x, n))
		}
		return l
	}
	for i := range 150 {
		keep := make([]bool, n)
		for j := range keep {
			keep[j] = r.Intn(8) < i%9
		}
		l = append(l, keep)
	}
	return l
}
