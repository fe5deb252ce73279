package vdisk

import (
	"bytes"
	"math/rand"
	"slices"
	"strconv"
	"strings"
	"testing"

	"logbook/api"
)

// slow is the chapter's disk, in rows, with what was done as functions.
type slow struct {
	room  int
	names names
	files []*bits
	// left is how many changes are done yet; below 0: it is not armed.
	left int
	dead bool
}

// names are names as they are and as they were safe, each with its file's number.
type names struct {
	now, safe []named
	done      []func(l []named) []named
}

type named struct {
	name string
	id   int
}

// bits are a file's bytes as they are and as they were safe.
type bits struct {
	now, safe []byte
	done      []func(b []byte) []byte
}

func newSlow(room int) *slow { return &slow{room: room, left: -1} }

func without(l []named, name string) []named {
	var left []named
	for _, n := range l {
		if n.name != name {
			left = append(left, n)
		}
	}
	return left
}

func find(l []named, name string) (int, bool) {
	for _, n := range l {
		if n.name == name {
			return n.id, true
		}
	}
	return 0, false
}

func with(l []named, name string, id int) []named {
	l = append(without(l, name), named{name, id})
	slices.SortFunc(l, func(a, b named) int { return strings.Compare(a.name, b.name) })
	return l
}

func sized(b []byte, n int) []byte {
	s := make([]byte, n)
	copy(s, b)
	return s
}

// stops tells whether a change isn't done.
func (m *slow) stops() bool {
	m.dead = m.dead || m.left == 0
	m.left--
	return m.dead
}

func (m *slow) did(do func(l []named) []named) api.Errno {
	m.names.now = do(m.names.now)
	m.names.done = append(m.names.done, do)
	return api.OK
}

func (m *slow) create(name string) api.Errno {
	if m.stops() {
		return api.ErrDead
	}
	if _, ok := find(m.names.now, name); ok {
		return api.ErrTwice
	}
	if name == "" {
		return api.ErrArg
	}
	id := len(m.files)
	m.files = append(m.files, &bits{})
	return m.did(func(l []named) []named { return with(l, name, id) })
}

func (m *slow) rename(from, to string) api.Errno {
	if m.stops() {
		return api.ErrDead
	}
	if _, ok := find(m.names.now, from); !ok {
		return api.ErrNone
	}
	if to == "" {
		return api.ErrArg
	}
	return m.did(func(l []named) []named {
		if id, ok := find(l, from); ok {
			return with(without(l, from), to, id)
		}
		return l
	})
}

func (m *slow) unlink(name string) api.Errno {
	if m.stops() {
		return api.ErrDead
	}
	if _, ok := find(m.names.now, name); !ok {
		return api.ErrNone
	}
	return m.did(func(l []named) []named { return without(l, name) })
}

func (m *slow) syncDir() api.Errno {
	if m.stops() {
		return api.ErrDead
	}
	m.names.safe, m.names.done = m.names.now, nil
	return api.OK
}

func (m *slow) used() int {
	n := 0
	for _, named := range m.names.now {
		n += (len(m.files[named.id].now) + 63) / 64
	}
	return n
}

// lacks tells whether there is no room for a file at a size.
func (m *slow) lacks(f *bits, size int) bool {
	more := (size+63)/64 - (len(f.now)+63)/64
	return more > 0 && m.used()+more > m.room
}

func (f *bits) keepSize(n int) {
	f.done = append(f.done, func(b []byte) []byte { return sized(b, n) })
}

func (f *bits) keepSector(n int) {
	was := sized(sized(f.now, n*64+64)[n*64:], 64)
	f.done = append(f.done, func(b []byte) []byte {
		set := sized(b, len(b))
		for i, x := range was {
			if n*64+i < len(set) {
				set[n*64+i] = x
			}
		}
		return set
	})
}

func (m *slow) write(name string, at int, b []byte) api.Errno {
	if m.stops() {
		return api.ErrDead
	}
	id, ok := find(m.names.now, name)
	if !ok {
		return api.ErrNone
	}
	f, end := m.files[id], at+len(b)
	if at < 0 || end > most {
		return api.ErrArg
	}
	if len(b) == 0 {
		return api.OK
	}
	if m.lacks(f, end) {
		return api.ErrSpace
	}
	longer := end > len(f.now)
	f.now = sized(f.now, max(end, len(f.now)))
	copy(f.now[at:], b)
	if longer {
		f.keepSize(end)
	}
	for n := at / 64; n*64 < end; n++ {
		f.keepSector(n)
	}
	return api.OK
}

func (m *slow) truncate(name string, n int) api.Errno {
	if m.stops() {
		return api.ErrDead
	}
	id, ok := find(m.names.now, name)
	if !ok {
		return api.ErrNone
	}
	f := m.files[id]
	if n < 0 || n > most {
		return api.ErrArg
	}
	if m.lacks(f, n) {
		return api.ErrSpace
	}
	if n != len(f.now) {
		f.now = sized(f.now, n)
		f.keepSize(n)
	}
	return api.OK
}

func (m *slow) sync(name string) api.Errno {
	if m.stops() {
		return api.ErrDead
	}
	id, ok := find(m.names.now, name)
	if !ok {
		return api.ErrNone
	}
	f := m.files[id]
	f.safe, f.done = sized(f.now, len(f.now)), nil
	return api.OK
}

func (m *slow) loose() int {
	n := len(m.names.done)
	for _, f := range m.files {
		n += len(f.done)
	}
	return n
}

// crash tells the disk that is left. What has no name stays, of no bytes and with nothing pending: nothing tells of it.
func (m *slow) crash(keep []bool) *slow {
	place := 0
	isKept := func() bool {
		place++
		return place <= len(keep) && keep[place-1]
	}
	left := newSlow(m.room)
	left.names.now = m.names.safe
	for _, do := range m.names.done {
		if isKept() {
			left.names.now = do(left.names.now)
		}
	}
	left.names.safe = left.names.now
	for _, f := range m.files {
		b := f.safe
		for _, do := range f.done {
			if isKept() {
				b = do(b)
			}
		}
		left.files = append(left.files, &bits{now: b, safe: b})
	}
	return left
}

// agrees tests that a disk tells what the chapter's does.
func agrees(t *testing.T, name string, d *Disk, m *slow) {
	t.Helper()
	var told []string
	for _, n := range m.names.now {
		told = append(told, n.name)
		if id, ok := d.Get(n.name); id != n.id || !ok {
			t.Fatalf("%s: Get of %s: %d, %v; want %d", name, n.name, id, ok, n.id)
		}
		want, wantErr := m.files[n.id].now, api.OK
		if m.dead {
			want, wantErr = nil, api.ErrDead
		}
		size, e := d.Size(n.name)
		if size != len(want) || e != wantErr {
			t.Fatalf("%s: Size of %s: %d, %d; want %d, %d", name, n.name, size, e, len(want), wantErr)
		}
		if b, e := d.Read(n.name, 0, most); !bytes.Equal(b, want) || e != wantErr {
			t.Fatalf("%s: Read of %s: %x, %d; want %x, %d", name, n.name, b, e, want, wantErr)
		}
	}
	if have := d.Names(); !slices.Equal(have, told) {
		t.Fatalf("%s: names %q; want %q", name, have, told)
	}
	if d.Loose() != m.loose() || d.Used() != m.used() || d.Dead() != m.dead || d.Pending() != len(m.names.done) {
		t.Fatalf("%s: %d loose, %d used, %v, %d pending; want %d, %d, %v, %d", name, d.Loose(), d.Used(), d.Dead(), d.Pending(), m.loose(), m.used(), m.dead, len(m.names.done))
	}
}

// chance does one thing to a disk and to the chapter's.
func chance(t *testing.T, r *rand.Rand, d *Disk, m *slow) {
	t.Helper()
	all := []string{"a", "b", "c", "d", ""}
	name, to := all[r.Intn(len(all))], all[r.Intn(len(all))]
	at, b := r.Intn(260)-2, text(r.Intn(3)*r.Intn(60), r.Intn(100))
	is := func(what string, have, want api.Errno) {
		t.Helper()
		if have != want {
			t.Fatalf("%s of %q, %q, %d, %d bytes: %d; want %d", what, name, to, at, len(b), have, want)
		}
	}
	switch r.Intn(10) {
	case 0, 1:
		is("Create", d.Create(name), m.create(name))
	case 2:
		is("Rename", d.Rename(name, to), m.rename(name, to))
	case 3:
		is("Unlink", d.Unlink(name), m.unlink(name))
	case 4, 5, 6:
		is("Write", d.Write(name, at, b), m.write(name, at, b))
	case 7:
		is("Truncate", d.Truncate(name, at), m.truncate(name, at))
	case 8:
		is("Sync", d.Sync(name), m.sync(name))
	case 9:
		is("SyncDir", d.SyncDir(), m.syncDir())
	}
	agrees(t, "by chance", d, m)
}

// P8.1 to P8.3, all together: whatever is done, and whatever is kept.
func TestManySteps(t *testing.T) {
	for seed := range 300 {
		r := rand.New(rand.NewSource(int64(seed)))
		room := r.Intn(14)
		d, m := New(room), newSlow(room)
		for range 120 {
			chance(t, r, d, m)
			keep := ones(r.Int(), r.Intn(50))
			switch r.Intn(25) {
			case 0:
				agrees(t, "crashed", d.Crash(keep...), m.crash(keep))
			case 1:
				d, m = d.Crash(keep...), m.crash(keep)
			case 2:
				n := r.Intn(30)
				d.Arm(n)
				m.left = n
			}
			agrees(t, "step by step", d, m)
		}
	}
}

// Each part of what is loose, kept.
func TestCrashOfEachPart(t *testing.T) {
	for seed := range 60 {
		r := rand.New(rand.NewSource(int64(seed)))
		d, m := New(20), newSlow(20)
		for range 30 {
			chance(t, r, d, m)
		}
		// What is left of it is safe: from there on, until some things are loose.
		all := kept(d.Loose())
		d, m = d.Crash(all...), m.crash(all)
		for m.loose() < 7 {
			chance(t, r, d, m)
		}
		for part := range 1 << 7 {
			keep := ones(part, r.Intn(9))
			agrees(t, "part "+strconv.Itoa(part), d.Crash(keep...), m.crash(keep))
		}
		agrees(t, "d", d, m)
	}
}

// P8.4

func TestWhatWasSyncedIsLeft(t *testing.T) {
	for seed := range 60 {
		r := rand.New(rand.NewSource(int64(seed)))
		d, m := New(20), newSlow(20)
		for range 40 {
			chance(t, r, d, m)
		}
		for _, name := range d.Names() {
			is(t, "Sync", d.Sync(name), m.sync(name))
		}
		is(t, "SyncDir", d.SyncDir(), m.syncDir())
		want := rows(t, d)
		for range 10 {
			has(t, "synced", d.Crash(ones(r.Int(), r.Intn(40))...), 0, want...)
		}
	}
}

// Of one file that was synced, and its name, nothing is lost, whatever is done with others.
func TestOneThatWasSyncedIsLeft(t *testing.T) {
	for seed := range 60 {
		r := rand.New(rand.NewSource(int64(seed)))
		d, m := New(40), newSlow(40)
		is(t, "Create", d.Create("safe"), m.create("safe"))
		b := text(r.Intn(300), seed)
		is(t, "Write", d.Write("safe", 0, b), m.write("safe", 0, b))
		is(t, "Sync", d.Sync("safe"), m.sync("safe"))
		is(t, "SyncDir", d.SyncDir(), m.syncDir())
		for range 40 {
			chance(t, r, d, m)
			c := d.Crash(ones(r.Int(), r.Intn(60))...)
			if have, e := c.Read("safe", 0, most); !bytes.Equal(have, b) || e != api.OK {
				t.Fatalf("%x, %d; want %x", have, e, b)
			}
		}
	}
}

// Wherever the disk stops, what was synced ahead of it is left.
func TestStoppedAtEachChange(t *testing.T) {
	steps := []func(d *Disk) api.Errno{
		func(d *Disk) api.Errno { return d.Create("new") },
		func(d *Disk) api.Errno { return d.Write("new", 0, text(100, 1)) },
		func(d *Disk) api.Errno { return d.Sync("new") },
		func(d *Disk) api.Errno { return d.Rename("new", "a") },
		func(d *Disk) api.Errno { return d.SyncDir() },
	}
	for n := range 8 {
		d := made(t, 9, row{"a", text(70, 0)})
		d.Arm(n)
		for i, step := range steps {
			want := api.OK
			if i >= n {
				want = api.ErrDead
			}
			is(t, "a step", step(d), want)
		}
		for part := range 1 << min(d.Loose(), 6) {
			b, e := d.Crash(ones(part, 6)...).Read("a", 0, most)
			old, changed := bytes.Equal(b, text(70, 0)), bytes.Equal(b, text(100, 1))
			if e != api.OK || !old && !changed || n < 4 && !old || n > 4 && !changed {
				t.Errorf("stopped behind %d, part %d: %x, %d", n, part, b, e)
			}
		}
	}
}

// rows tells what a disk has.
func rows(t *testing.T, d *Disk) []row {
	t.Helper()
	var l []row
	for _, name := range d.Names() {
		b, e := d.Read(name, 0, most)
		is(t, name, e, api.OK)
		l = append(l, row{name, b})
	}
	return l
}
