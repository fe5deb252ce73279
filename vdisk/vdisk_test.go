package vdisk

import (
	"bytes"
	"math"
	"slices"
	"strings"
	"testing"

	"logbook/api"
	"logbook/dir"
)

// most is how many bytes a file has at most.
const most = 1 << 20

// text tells n bytes, none of them 0, which differ by their salt, with no room behind them.
func text(n, salt int) []byte {
	b := make([]byte, n)
	for i := range b {
		b[i] = byte((i*37+salt*101)%255) + 1
	}
	return b
}

// ones tells the trues of a number's bits, the least one first.
func ones(bits, n int) []bool {
	keep := make([]bool, n)
	for i := range keep {
		keep[i] = bits>>i&1 == 1
	}
	return keep
}

// kept tells so many trues.
func kept(n int) []bool { return ones(-1, n) }

func is(t *testing.T, name string, have, want api.Errno) {
	t.Helper()
	if have != want {
		t.Errorf("%s: %d; want %d", name, have, want)
	}
}

// row is a name, and its file's bytes.
type row struct {
	name string
	data []byte
}

// has tests which names a disk has, their files' bytes, and how many things are loose.
func has(t *testing.T, name string, d *Disk, loose int, want ...row) {
	t.Helper()
	var names []string
	used := 0
	for _, f := range want {
		names = append(names, f.name)
		used += (len(f.data) + 63) / 64
		if n, e := d.Size(f.name); n != len(f.data) || e != api.OK {
			t.Errorf("%s: Size of %s: %d, %d; want %d", name, f.name, n, e, len(f.data))
		}
		if b, e := d.Read(f.name, 0, most); !bytes.Equal(b, f.data) || e != api.OK {
			t.Errorf("%s: Read of %s: %x, %d; want %x", name, f.name, short(b), e, short(f.data))
		}
	}
	if have := d.Names(); !slices.Equal(have, names) {
		t.Errorf("%s: names %q; want %q", name, have, names)
	}
	if have := d.Loose(); have != loose {
		t.Errorf("%s: %d loose; want %d", name, have, loose)
	}
	if have := d.Used(); have != used {
		t.Errorf("%s: %d used; want %d", name, have, used)
	}
}

func short(b []byte) []byte { return b[:min(len(b), 300)] }

// numbers tests which files' numbers names have.
func numbers(t *testing.T, d *Disk, want map[string]int) {
	t.Helper()
	if have := len(d.Names()); have != len(want) {
		t.Errorf("%d names; want %d", have, len(want))
	}
	for name, id := range want {
		if have, ok := d.Get(name); have != id || !ok {
			t.Errorf("Get of %s: %d, %v; want %d", name, have, ok, id)
		}
	}
}

// made tells a disk with files, all of them safe.
func made(t *testing.T, room int, l ...row) *Disk {
	t.Helper()
	d := New(room)
	for _, f := range l {
		is(t, "Create "+f.name, d.Create(f.name), api.OK)
		is(t, "Write "+f.name, d.Write(f.name, 0, f.data), api.OK)
		is(t, "Sync "+f.name, d.Sync(f.name), api.OK)
	}
	is(t, "SyncDir", d.SyncDir(), api.OK)
	return d
}

// P8.1

func TestNew(t *testing.T) {
	for _, room := range []int{math.MinInt, -1, 0, 1, 100, math.MaxInt} {
		d := New(room)
		has(t, "New", d, 0)
		if d.Dead() || d.Pending() != 0 {
			t.Error("a new disk has stopped, or has something pending")
		}
		is(t, "Create", d.Create("a"), api.OK)
		has(t, "created", d, 1, row{"a", nil})
		has(t, "another New", New(room), 0)
	}
}

func TestRoom(t *testing.T) {
	for _, c := range []struct{ room, size int }{
		{math.MinInt, 0}, {-64, 0}, {-1, 0}, {0, 0}, {1, 64}, {2, 128}, {3, 192}, {100, 6400}, {1 << 14, most}, {math.MaxInt, most},
	} {
		d := New(c.room)
		is(t, "Create", d.Create("a"), api.OK)
		if c.size < most {
			is(t, "one byte more", d.Write("a", 0, text(c.size+1, 0)), api.ErrSpace)
			is(t, "one byte more, by its size", d.Truncate("a", c.size+1), api.ErrSpace)
		}
		is(t, "all the room", d.Write("a", 0, text(c.size, 0)), api.OK)
		if n, e := d.Size("a"); n != c.size || e != api.OK || d.Used() != c.size/64 {
			t.Errorf("room %d: %d bytes, %d, %d used", c.room, n, e, d.Used())
		}
	}
}

func TestExample(t *testing.T) {
	d := New(1)
	is(t, "Create", d.Create("A"), api.OK)
	is(t, "Write of 64 bytes", d.Write("A", 0, text(64, 0)), api.OK)
	is(t, "Write at 64", d.Write("A", 64, []byte{1}), api.ErrSpace)
	has(t, "d", d, 3, row{"A", text(64, 0)})
}

func TestCreate(t *testing.T) {
	d := New(10)
	for _, name := range []string{"b", "a", "c"} {
		is(t, name, d.Create(name), api.OK)
	}
	numbers(t, d, map[string]int{"b": 0, "a": 1, "c": 2})
	has(t, "created", d, 3, row{"a", nil}, row{"b", nil}, row{"c", nil})
}

// What is refused uses no number, and changes nothing.
func TestCreateRefused(t *testing.T) {
	d := made(t, 10, row{"a", text(70, 0)})
	for _, name := range []string{"", "/", "a/b", " ", "\x7f", "é", strings.Repeat("a", 101)} {
		is(t, name, d.Create(name), api.ErrArg)
	}
	is(t, "twice", d.Create("a"), api.ErrTwice)
	has(t, "refused", d, 0, row{"a", text(70, 0)})
	is(t, "the longest name", d.Create(strings.Repeat("a", 100)), api.OK)
	numbers(t, d, map[string]int{"a": 0, strings.Repeat("a", 100): 1})
	is(t, "Unlink", d.Unlink("a"), api.OK)
	is(t, "Create again", d.Create("a"), api.OK)
	numbers(t, d, map[string]int{"a": 2, strings.Repeat("a", 100): 1})
	has(t, "a new file", d, 3, row{"a", nil}, row{strings.Repeat("a", 100), nil})
}

func TestRename(t *testing.T) {
	a, b := text(70, 1), text(130, 2)
	for _, c := range []struct {
		name, from, to string
		want           []row
	}{
		{"to a new name", "a", "c", []row{{"b", b}, {"c", a}}},
		{"to one that is there", "a", "b", []row{{"b", a}}},
		{"to one that is there, above", "b", "a", []row{{"a", b}}},
		{"to itself", "a", "a", []row{{"a", a}, {"b", b}}},
	} {
		d := made(t, 5, row{"a", a}, row{"b", b})
		is(t, c.name, d.Rename(c.from, c.to), api.OK)
		has(t, c.name, d, 1, c.want...)
		has(t, c.name+", lost", d.Crash(), 0, row{"a", a}, row{"b", b})
		has(t, c.name+", left", d.Crash(true), 0, c.want...)
		is(t, c.name+", SyncDir", d.SyncDir(), api.OK)
		has(t, c.name+", safe", d, 0, c.want...)
		has(t, c.name+", safe and left", d.Crash(), 0, c.want...)
	}
}

func TestRenameRefused(t *testing.T) {
	d := made(t, 5, row{"a", text(3, 0)})
	is(t, "of none", d.Rename("b", "c"), api.ErrNone)
	is(t, "of none, to itself", d.Rename("b", "b"), api.ErrNone)
	is(t, "of none, to no name", d.Rename("b", "/"), api.ErrNone)
	is(t, "to no name", d.Rename("a", "/"), api.ErrArg)
	is(t, "to an empty name", d.Rename("a", ""), api.ErrArg)
	has(t, "refused", d, 0, row{"a", text(3, 0)})
}

func TestUnlink(t *testing.T) {
	a, b := row{"a", text(70, 1)}, row{"b", text(130, 2)}
	d := made(t, 5, a, b)
	is(t, "of none", d.Unlink("c"), api.ErrNone)
	is(t, "of no name", d.Unlink("/"), api.ErrNone)
	has(t, "refused", d, 0, a, b)
	is(t, "Unlink", d.Unlink("a"), api.OK)
	is(t, "twice", d.Unlink("a"), api.ErrNone)
	has(t, "unlinked", d, 1, b)
	has(t, "lost", d.Crash(), 0, a, b)
	has(t, "left", d.Crash(true), 0, b)
	is(t, "SyncDir", d.SyncDir(), api.OK)
	has(t, "safe", d, 0, b)
	has(t, "safe and left", d.Crash(), 0, b)
}

func TestSyncDirMakesNamesSafeAlone(t *testing.T) {
	d := New(5)
	is(t, "Create", d.Create("a"), api.OK)
	is(t, "Write", d.Write("a", 0, text(70, 1)), api.OK)
	is(t, "SyncDir", d.SyncDir(), api.OK)
	has(t, "d", d, 3, row{"a", text(70, 1)})
	has(t, "left", d.Crash(), 0, row{"a", nil})
	is(t, "Create", d.Create("b"), api.OK)
	is(t, "Write", d.Write("b", 0, text(7, 2)), api.OK)
	is(t, "Sync", d.Sync("b"), api.OK)
	has(t, "a file without a safe name", d.Crash(), 0, row{"a", nil})
	has(t, "its name is kept", d.Crash(true), 0, row{"a", nil}, row{"b", text(7, 2)})
}

// The directory's other calls are the disk's, too.
func TestDirectory(t *testing.T) {
	d := New(5)
	var inner *dir.Dir = d.Dir
	is(t, "Create", d.Create("a"), api.OK)
	if id, ok := d.Get("a"); id != 0 || !ok {
		t.Error("Get of a:", id, ok)
	}
	if id, ok := d.Get("b"); id != 0 || ok {
		t.Error("Get of b:", id, ok)
	}
	if !slices.Equal(inner.Names(), []string{"a"}) || d.Pending() != 1 || inner.Pending() != 1 {
		t.Error(inner.Names(), d.Pending())
	}
}

// P8.2

func TestNoSuchName(t *testing.T) {
	d := made(t, 1, row{"a", text(64, 0)})
	for _, name := range []string{"b", "", "/", "A", "aa"} {
		if n, e := d.Size(name); n != 0 || e != api.ErrNone {
			t.Errorf("Size of %q: %d, %d", name, n, e)
		}
		if b, e := d.Read(name, 0, 10); len(b) != 0 || e != api.ErrNone {
			t.Errorf("Read of %q: %x, %d", name, b, e)
		}
		is(t, "Write", d.Write(name, 0, []byte{1}), api.ErrNone)
		is(t, "Write of nothing", d.Write(name, 0, nil), api.ErrNone)
		is(t, "Write at no place", d.Write(name, -1, nil), api.ErrNone)
		is(t, "Write without room", d.Write(name, 0, text(65, 0)), api.ErrNone)
		is(t, "Truncate", d.Truncate(name, 0), api.ErrNone)
		is(t, "Truncate to no size", d.Truncate(name, -1), api.ErrNone)
		is(t, "Truncate without room", d.Truncate(name, 65), api.ErrNone)
		is(t, "Sync", d.Sync(name), api.ErrNone)
	}
	has(t, "refused", d, 0, row{"a", text(64, 0)})
}

func TestRead(t *testing.T) {
	b := text(130, 3)
	d := made(t, 3, row{"a", b}, row{"b", nil})
	for _, at := range []int{math.MinInt, -1, 0, 1, 63, 64, 65, 128, 129, 130, 131, most, math.MaxInt} {
		for _, n := range []int{math.MinInt, -1, 0, 1, 2, 64, 129, 130, 131, most, math.MaxInt} {
			var want []byte
			for i, x := range b {
				if i >= at && at >= 0 && i-at < n {
					want = append(want, x)
				}
			}
			if have, e := d.Read("a", at, n); !bytes.Equal(have, want) || e != api.OK {
				t.Errorf("Read of %d at %d: %x, %d; want %x", n, at, have, e, want)
			}
			if have, e := d.Read("b", at, n); len(have) != 0 || e != api.OK {
				t.Errorf("Read of %d at %d of no bytes: %x, %d", n, at, have, e)
			}
		}
	}
}

func TestWriteAndTruncate(t *testing.T) {
	d := made(t, 10, row{"a", text(70, 0)}, row{"b", text(5, 1)})
	is(t, "Write", d.Write("a", 60, text(20, 2)), api.OK)
	a := slices.Concat(text(70, 0)[:60], text(20, 2))
	has(t, "written", d, 3, row{"a", a}, row{"b", text(5, 1)})
	is(t, "Write behind the end", d.Write("b", 100, []byte{9}), api.OK)
	b := slices.Concat(text(5, 1), make([]byte, 95), []byte{9})
	has(t, "written behind the end", d, 5, row{"a", a}, row{"b", b})
	is(t, "Truncate", d.Truncate("a", 65), api.OK)
	is(t, "Truncate, as long", d.Truncate("a", 65), api.OK)
	is(t, "Truncate, longer", d.Truncate("b", 150), api.OK)
	a, b = a[:65], slices.Concat(b, make([]byte, 49))
	has(t, "truncated", d, 7, row{"a", a}, row{"b", b})
	is(t, "Sync", d.Sync("a"), api.OK)
	has(t, "one synced", d, 3, row{"a", a}, row{"b", b})
	has(t, "one left", d.Crash(), 0, row{"a", a}, row{"b", text(5, 1)})
}

// A file's errors come ahead of the room's.
func TestWhatTheFileRefuses(t *testing.T) {
	for _, room := range []int{2, 1 << 20} {
		d := made(t, room, row{"a", text(100, 0)})
		for _, c := range []struct{ at, n int }{
			{-1, 0}, {-1, 1}, {-64, 300}, {math.MinInt, 0}, {math.MinInt, 1}, {most, 1}, {most - 1, 2}, {0, most + 1},
			{most - 63, 64}, {most + 1, 1}, {1 << 40, 1}, {math.MaxInt, 1}, {math.MaxInt, 2}, {math.MaxInt - 63, 200},
		} {
			is(t, "Write", d.Write("a", c.at, text(c.n, 1)), api.ErrArg)
		}
		for _, n := range []int{math.MinInt, -65, -1, most + 1, 1 << 31, 1 << 40, math.MaxInt} {
			is(t, "Truncate", d.Truncate("a", n), api.ErrArg)
		}
		has(t, "refused", d, 0, row{"a", text(100, 0)})
	}
}

func TestNothingWrittenTakesNoRoom(t *testing.T) {
	d := made(t, 2, row{"a", text(128, 0)}, row{"b", nil})
	for _, at := range []int{0, 1, 127, 128, 129, 5000, most} {
		is(t, "to a", d.Write("a", at, nil), api.OK)
		is(t, "to b", d.Write("b", at, []byte{}), api.OK)
	}
	has(t, "nothing written", d, 0, row{"a", text(128, 0)}, row{"b", nil})
}

func TestSpace(t *testing.T) {
	a, b := text(70, 0), text(5, 1)
	for _, c := range []struct {
		name string
		do   func(d *Disk) api.Errno
		want api.Errno
	}{
		{"the last sector", func(d *Disk) api.Errno { return d.Write("b", 64, text(64, 2)) }, api.OK},
		{"a byte of it", func(d *Disk) api.Errno { return d.Write("b", 127, []byte{1}) }, api.OK},
		{"one sector more", func(d *Disk) api.Errno { return d.Write("b", 128, []byte{1}) }, api.ErrSpace},
		{"across it", func(d *Disk) api.Errno { return d.Write("b", 0, text(129, 2)) }, api.ErrSpace},
		{"of the other file", func(d *Disk) api.Errno { return d.Write("a", 191, []byte{1}) }, api.OK},
		{"of the other file, one more", func(d *Disk) api.Errno { return d.Write("a", 192, []byte{1}) }, api.ErrSpace},
		{"the last byte of all", func(d *Disk) api.Errno { return d.Write("a", most-1, []byte{1}) }, api.ErrSpace},
		{"all bytes", func(d *Disk) api.Errno { return d.Write("a", 0, text(most, 1)) }, api.ErrSpace},
		{"inside", func(d *Disk) api.Errno { return d.Write("a", 0, text(128, 1)) }, api.OK},
		{"the size of the last sector", func(d *Disk) api.Errno { return d.Truncate("b", 128) }, api.OK},
		{"the size of one more", func(d *Disk) api.Errno { return d.Truncate("b", 129) }, api.ErrSpace},
		{"the greatest size", func(d *Disk) api.Errno { return d.Truncate("b", most) }, api.ErrSpace},
		{"no size", func(d *Disk) api.Errno { return d.Truncate("a", 0) }, api.OK},
	} {
		d := made(t, 4, row{"a", a}, row{"b", b})
		is(t, c.name, c.do(d), c.want)
		if c.want != api.OK {
			has(t, c.name, d, 0, row{"a", a}, row{"b", b})
		}
	}
}

// A full disk takes what needs no more sectors.
func TestFullDisk(t *testing.T) {
	d := made(t, 3, row{"a", text(65, 0)}, row{"b", text(64, 1)})
	is(t, "more of a's last sector", d.Write("a", 60, text(68, 2)), api.OK)
	is(t, "b's, written over", d.Write("b", 0, text(64, 3)), api.OK)
	is(t, "one more", d.Write("b", 64, []byte{1}), api.ErrSpace)
	is(t, "an empty file", d.Create("c"), api.OK)
	is(t, "into it", d.Write("c", 0, []byte{1}), api.ErrSpace)
	is(t, "a shorter a", d.Truncate("a", 64), api.OK)
	is(t, "into c", d.Write("c", 63, []byte{1}), api.OK)
	is(t, "two in c", d.Write("c", 64, []byte{1}), api.ErrSpace)
	is(t, "Unlink", d.Unlink("a"), api.OK)
	is(t, "two in c, a gone", d.Write("c", 64, []byte{2}), api.OK)
	is(t, "c over b", d.Rename("c", "b"), api.OK)
	is(t, "three in b", d.Write("b", 128, []byte{3}), api.OK)
	is(t, "four in b", d.Truncate("b", 193), api.ErrSpace)
	if d.Used() != 3 || !slices.Equal(d.Names(), []string{"b"}) {
		t.Error(d.Used(), d.Names())
	}
}

// A crash may leave more than there is room for: what takes no more is done, though.
func TestMoreThanThereIsRoomFor(t *testing.T) {
	d := made(t, 4, row{"a", text(256, 0)}, row{"b", nil})
	is(t, "a shorter a", d.Truncate("a", 64), api.OK)
	is(t, "a longer b", d.Truncate("b", 190), api.OK)
	c := d.Crash(false, true)
	b := make([]byte, 190)
	has(t, "left", c, 0, row{"a", text(256, 0)}, row{"b", b})
	is(t, "to a", c.Write("a", 0, text(256, 1)), api.OK)
	is(t, "to b", c.Write("b", 190, []byte{1, 2}), api.OK)
	is(t, "behind b", c.Write("b", 192, []byte{1}), api.ErrSpace)
	is(t, "a shorter a", c.Truncate("a", 129), api.OK)
	is(t, "a longer a", c.Truncate("a", 193), api.ErrSpace)
	is(t, "as many of a", c.Truncate("a", 192), api.OK)
	is(t, "a new one", c.Create("c"), api.OK)
	is(t, "into it", c.Write("c", 0, []byte{1}), api.ErrSpace)
	has(t, "c", c, 9, row{"a", text(256, 1)[:129]}.sized(192), row{"b", append(b, 1, 2)}, row{"c", nil})
}

// sized tells a row with as many bytes, noughts behind them.
func (r row) sized(n int) row {
	b := make([]byte, n)
	copy(b, r.data)
	return row{r.name, b}
}

// Of two names of one file both count, in what is used and in what would be.
func TestTwoNamesOfOneFile(t *testing.T) {
	d := made(t, 5, row{"a", text(70, 0)})
	is(t, "another name", d.Dir.Create("b", 0), api.OK)
	has(t, "two names", d, 1, row{"a", text(70, 0)}, row{"b", text(70, 0)})
	is(t, "one sector more", d.Write("b", 128, []byte{1}), api.ErrSpace)
	is(t, "inside", d.Write("b", 0, text(128, 1)), api.OK)
	has(t, "written by one", d, 4, row{"a", text(128, 1)}, row{"b", text(128, 1)})
	is(t, "Unlink", d.Unlink("a"), api.OK)
	is(t, "SyncDir", d.SyncDir(), api.OK)
	is(t, "one sector more, by one name", d.Write("b", 128, []byte{1}), api.OK)
	has(t, "one name", d, 5, row{"b", append(text(128, 1), 1)})
	has(t, "left", d.Crash(), 0, row{"b", text(70, 0)})
}

// A name that the directory was given past the disk may be of a number that no file has: there is no such file.
func TestNameOfNoFile(t *testing.T) {
	d := New(5)
	for i, id := range []int{math.MinInt, -1, 7, math.MaxInt} {
		name := string(rune('a' + i))
		is(t, name, d.Dir.Create(name, id), api.OK)
		_, e := d.Size(name)
		is(t, "Size", e, api.ErrNone)
		b, e := d.Read(name, 0, 1)
		is(t, "Read", e, api.ErrNone)
		is(t, "Write", d.Write(name, 0, []byte{1}), api.ErrNone)
		is(t, "Truncate", d.Truncate(name, 1), api.ErrNone)
		is(t, "Sync", d.Sync(name), api.ErrNone)
		if len(b) != 0 || d.Used() != 0 || d.Loose() != i+1 {
			t.Error(b, d.Used(), d.Loose())
		}
	}
	is(t, "SyncDir", d.SyncDir(), api.OK)
	if l := d.Crash().Names(); len(l) != 4 {
		t.Error(l)
	}
}

// P8.3

func TestLoose(t *testing.T) {
	d := New(20)
	for _, c := range []struct {
		name string
		do   func() api.Errno
		want int
	}{
		{"Create a", func() api.Errno { return d.Create("a") }, 1},
		{"Create b", func() api.Errno { return d.Create("b") }, 2},
		{"Write of two sectors to a", func() api.Errno { return d.Write("a", 63, []byte{1, 2}) }, 5},
		{"Write over it", func() api.Errno { return d.Write("a", 64, []byte{1}) }, 6},
		{"Write of nothing", func() api.Errno { return d.Write("a", 100, nil) }, 6},
		{"Truncate b", func() api.Errno { return d.Truncate("b", 100) }, 7},
		{"Truncate b, as long", func() api.Errno { return d.Truncate("b", 100) }, 7},
		{"Rename a to c", func() api.Errno { return d.Rename("a", "c") }, 8},
		{"Unlink c", func() api.Errno { return d.Unlink("c") }, 9},
		{"SyncDir, a's file has no name", func() api.Errno { return d.SyncDir() }, 5},
		{"Create a again", func() api.Errno { return d.Create("a") }, 6},
		{"Write to a", func() api.Errno { return d.Write("a", 0, []byte{1}) }, 8},
		{"Rename b to a", func() api.Errno { return d.Rename("b", "a") }, 9},
		{"Sync a, the file that was b", func() api.Errno { return d.Sync("a") }, 8},
		{"SyncDir again", func() api.Errno { return d.SyncDir() }, 6},
		{"SyncDir thrice", func() api.Errno { return d.SyncDir() }, 6},
	} {
		is(t, c.name, c.do(), api.OK)
		if have := d.Loose(); have != c.want {
			t.Errorf("%s: %d loose; want %d", c.name, have, c.want)
		}
	}
	has(t, "left", d.Crash(kept(6)...), 0, row{"a", make([]byte, 100)})
}

// What is kept is first of names, and then of files, as they were made, not as they rise.
func TestCrash(t *testing.T) {
	d := made(t, 20, row{"b", text(3, 0)}, row{"a", text(3, 1)})
	is(t, "to a", d.Write("a", 0, []byte{7}), api.OK)
	is(t, "to b", d.Write("b", 2, []byte{8, 9}), api.OK)
	is(t, "a to c", d.Rename("a", "c"), api.OK)
	is(t, "Create d", d.Create("d"), api.OK)
	is(t, "Truncate d", d.Truncate("d", 1), api.OK)
	// The names c and d; b's size and sector; a's sector; d's size.
	b, a := text(3, 0), text(3, 1)
	long := slices.Concat(b[:2], []byte{8, 9})
	wrote := slices.Concat([]byte{7}, a[1:])
	for _, c := range []struct {
		name string
		keep []bool
		want []row
	}{
		{"nothing", nil, []row{{"a", a}, {"b", b}}},
		{"nothing, told", make([]bool, 6), []row{{"a", a}, {"b", b}}},
		{"c", ones(0b1, 1), []row{{"b", b}, {"c", a}}},
		{"d", ones(0b10, 2), []row{{"a", a}, {"b", b}, {"d", nil}}},
		{"b's size", ones(0b100, 3), []row{{"a", a}, {"b", append(b[:3:3], 0)}}},
		{"b's sector", ones(0b1000, 4), []row{{"a", a}, {"b", long[:3]}}},
		{"b's size and sector", ones(0b1100, 6), []row{{"a", a}, {"b", long}}},
		{"a's sector", ones(0b10000, 5), []row{{"a", wrote}, {"b", b}}},
		{"c, and a's sector", ones(0b10001, 6), []row{{"b", b}, {"c", wrote}}},
		{"d's size alone", ones(0b100000, 6), []row{{"a", a}, {"b", b}}},
		{"d, and its size", ones(0b100010, 6), []row{{"a", a}, {"b", b}, {"d", []byte{0}}}},
		{"all", kept(6), []row{{"b", long}, {"c", wrote}, {"d", []byte{0}}}},
		{"all and more", kept(30), []row{{"b", long}, {"c", wrote}, {"d", []byte{0}}}},
	} {
		has(t, c.name, d.Crash(c.keep...), 0, c.want...)
	}
	has(t, "d", d, 6, row{"b", long}, row{"c", wrote}, row{"d", []byte{0}})
}

// Files without names have their places in what is kept, and are there again if their names are.
func TestCrashOfFilesWithoutNames(t *testing.T) {
	a, b := text(3, 0), text(3, 1)
	d := made(t, 20, row{"a", a}, row{"b", b})
	is(t, "to a", d.Write("a", 0, []byte{7}), api.OK)
	is(t, "to b", d.Write("b", 0, []byte{8}), api.OK)
	is(t, "Unlink a", d.Unlink("a"), api.OK)
	// The name a, a's sector, b's sector.
	has(t, "d", d, 3, row{"b", append([]byte{8}, b[1:]...)})
	has(t, "a's sector", d.Crash(false, true), 0, row{"a", append([]byte{7}, a[1:]...)}, row{"b", b})
	has(t, "b's sector", d.Crash(false, false, true), 0, row{"a", a}, row{"b", append([]byte{8}, b[1:]...)})
	has(t, "a gone, its sector", d.Crash(true, true), 0, row{"b", b})
	is(t, "SyncDir", d.SyncDir(), api.OK)
	has(t, "d, a gone", d, 2, row{"b", append([]byte{8}, b[1:]...)})
	has(t, "a's sector, a gone", d.Crash(true, false), 0, row{"b", b})
	has(t, "b's sector, a gone", d.Crash(false, true), 0, row{"b", append([]byte{8}, b[1:]...)})
	is(t, "b over a new one", d.Create("c"), api.OK)
	is(t, "b over a new one", d.Rename("b", "c"), api.OK)
	has(t, "neither name", d.Crash(false, false, false, true), 0, row{"b", append([]byte{8}, b[1:]...)})
	has(t, "the new one", d.Crash(true), 0, row{"b", b}, row{"c", nil})
	has(t, "the old one's new name", d.Crash(false, true, true), 0, row{"c", b})
}

func TestCrashIsSafe(t *testing.T) {
	d := New(3)
	is(t, "Create", d.Create("a"), api.OK)
	is(t, "Write", d.Write("a", 0, text(70, 0)), api.OK)
	c := d.Crash(kept(4)...)
	for range 3 {
		has(t, "left", c, 0, row{"a", text(70, 0)})
		if c.Dead() || c.Pending() != 0 {
			t.Error("it has stopped, or has something pending")
		}
		c = c.Crash(true, false)
	}
}

// The room stays, and numbers go on.
func TestCrashKeepsTheRoom(t *testing.T) {
	d := made(t, 2, row{"a", nil})
	is(t, "Create", d.Create("b"), api.OK)
	c := d.Crash()
	is(t, "Create", c.Create("c"), api.OK)
	numbers(t, c, map[string]int{"a": 0, "c": 2})
	is(t, "three sectors", c.Write("c", 0, text(129, 0)), api.ErrSpace)
	is(t, "two sectors", c.Write("c", 0, text(128, 0)), api.OK)
	is(t, "Create", d.Create("c"), api.OK)
	numbers(t, d, map[string]int{"a": 0, "b": 1, "c": 2})
	has(t, "d", d, 2, row{"a", nil}, row{"b", nil}, row{"c", nil})
}

func TestCrashGoesItsOwnWay(t *testing.T) {
	a := text(70, 0)
	d := made(t, 9, row{"a", a})
	is(t, "Write", d.Write("a", 0, text(70, 1)), api.OK)
	is(t, "Create", d.Create("b"), api.OK)
	for _, keep := range [][]bool{nil, kept(3)} {
		c := d.Crash(keep...)
		is(t, "Write", c.Write("a", 0, text(130, 2)), api.OK)
		is(t, "Sync", c.Sync("a"), api.OK)
		is(t, "Rename", c.Rename("a", "d"), api.OK)
		is(t, "SyncDir", c.SyncDir(), api.OK)
		c.Arm(0)
		is(t, "Unlink", c.Unlink("d"), api.ErrDead)
		has(t, "d, what was left changed", d, 3, row{"a", text(70, 1)}, row{"b", nil})
		has(t, "d's crash, what was left changed", d.Crash(), 0, row{"a", a})
		has(t, "d's other crash", d.Crash(kept(3)...), 0, row{"a", text(70, 1)}, row{"b", nil})
	}
	c, e := d.Crash(kept(3)...), d.Crash()
	is(t, "Write", d.Write("a", 0, text(90, 5)), api.OK)
	is(t, "Sync", d.Sync("a"), api.OK)
	is(t, "Rename", d.Rename("a", "d"), api.OK)
	is(t, "SyncDir", d.SyncDir(), api.OK)
	d.Arm(0)
	is(t, "Unlink", d.Unlink("d"), api.ErrDead)
	has(t, "what was left, d changed", c, 0, row{"a", text(70, 1)}, row{"b", nil})
	has(t, "what was safe, d changed", e, 0, row{"a", a})
}

// changes are the calls that change a disk, each with the error it answers of one that has no files.
var changes = []struct {
	name string
	do   func(d *Disk) api.Errno
	want api.Errno
}{
	{"Create", func(d *Disk) api.Errno { return d.Create("new") }, api.OK},
	{"SyncDir", func(d *Disk) api.Errno { return d.SyncDir() }, api.OK},
	{"Create of no name", func(d *Disk) api.Errno { return d.Create("/") }, api.ErrArg},
	{"Write", func(d *Disk) api.Errno { return d.Write("x", 0, []byte{1}) }, api.ErrNone},
	{"Write of nothing", func(d *Disk) api.Errno { return d.Write("x", 0, nil) }, api.ErrNone},
	{"Truncate", func(d *Disk) api.Errno { return d.Truncate("x", 0) }, api.ErrNone},
	{"Sync", func(d *Disk) api.Errno { return d.Sync("x") }, api.ErrNone},
	{"Rename", func(d *Disk) api.Errno { return d.Rename("x", "y") }, api.ErrNone},
	{"Unlink", func(d *Disk) api.Errno { return d.Unlink("x") }, api.ErrNone},
}

// Each call that changes counts, whatever it answers, and is refused at the one at which the disk stops.
func TestArm(t *testing.T) {
	for _, n := range []int{math.MinInt, -1, 0, 1, 2, 5, 100} {
		for _, last := range changes {
			d := New(5)
			d.Arm(n)
			for i := range max(n, 0) {
				c := changes[i%len(changes)]
				if i < len(changes) {
					is(t, c.name, c.do(d), c.want)
				} else {
					c.do(d)
				}
				if d.Dead() {
					t.Fatalf("armed with %d, it has stopped at change %d", n, i)
				}
			}
			was := d.Names()
			is(t, last.name+", stopped", last.do(d), api.ErrDead)
			if !d.Dead() || !slices.Equal(d.Names(), was) {
				t.Errorf("%s, armed with %d: %v, %q", last.name, n, d.Dead(), d.Names())
			}
		}
	}
}

// What is refused for want of room counts as well, and what is asked doesn't.
func TestWhatCounts(t *testing.T) {
	d := made(t, 1, row{"a", text(64, 0)})
	d.Arm(5)
	is(t, "Write without room", d.Write("a", 64, []byte{1}), api.ErrSpace)
	is(t, "Truncate without room", d.Truncate("a", 65), api.ErrSpace)
	is(t, "Write at no place", d.Write("a", -1, nil), api.ErrArg)
	is(t, "Truncate to no size", d.Truncate("a", -1), api.ErrArg)
	for range 20 {
		d.Size("a")
		d.Read("a", 0, 1)
		d.Size("x")
		d.Read("x", 0, 1)
		d.Used()
		d.Loose()
		d.Names()
		d.Get("a")
		d.Crash(true)
	}
	is(t, "Create twice", d.Create("a"), api.ErrTwice)
	if d.Dead() {
		t.Error("it has stopped too soon")
	}
	is(t, "one more", d.Create("a"), api.ErrDead)
}

func TestArmAgain(t *testing.T) {
	d := New(5)
	d.Arm(0)
	d.Arm(2)
	is(t, "a", d.Create("a"), api.OK)
	d.Arm(1)
	is(t, "b", d.Create("b"), api.OK)
	is(t, "c", d.Create("c"), api.ErrDead)
	d.Arm(100)
	is(t, "armed when it has stopped", d.Create("c"), api.ErrDead)
	if !d.Dead() {
		t.Error("it runs again")
	}
}

func TestArmBehindManyChanges(t *testing.T) {
	d := New(5)
	for range 100 {
		is(t, "SyncDir", d.SyncDir(), api.OK)
	}
	d.Arm(math.MaxInt)
	for range 100 {
		is(t, "SyncDir, armed", d.SyncDir(), api.OK)
	}
	d.Arm(0)
	is(t, "SyncDir, the last one", d.SyncDir(), api.ErrDead)
}

// A stopped disk does nothing, and answers ErrDead ahead of all else.
func TestDead(t *testing.T) {
	a := text(70, 0)
	d := made(t, 2, row{"a", a})
	is(t, "Write", d.Write("a", 0, []byte{7}), api.OK)
	is(t, "Create", d.Create("b"), api.OK)
	d.Arm(0)
	if d.Dead() {
		t.Error("it has stopped ahead of the change")
	}
	is(t, "the change", d.Sync("a"), api.ErrDead)
	for _, name := range []string{"a", "b", "x", "", "/"} {
		if n, e := d.Size(name); n != 0 || e != api.ErrDead {
			t.Errorf("Size of %q: %d, %d", name, n, e)
		}
		if b, e := d.Read(name, 0, 10); len(b) != 0 || e != api.ErrDead {
			t.Errorf("Read of %q: %x, %d", name, b, e)
		}
		is(t, "Create", d.Create(name), api.ErrDead)
		is(t, "Write", d.Write(name, 0, []byte{1}), api.ErrDead)
		is(t, "Write at no place", d.Write(name, -1, nil), api.ErrDead)
		is(t, "Write without room", d.Write(name, 0, text(500, 0)), api.ErrDead)
		is(t, "Truncate", d.Truncate(name, 0), api.ErrDead)
		is(t, "Truncate to no size", d.Truncate(name, -1), api.ErrDead)
		is(t, "Sync", d.Sync(name), api.ErrDead)
		is(t, "Rename", d.Rename(name, "c"), api.ErrDead)
		is(t, "Unlink", d.Unlink(name), api.ErrDead)
	}
	is(t, "SyncDir", d.SyncDir(), api.ErrDead)
	if !d.Dead() || d.Loose() != 2 || d.Used() != 2 || !slices.Equal(d.Names(), []string{"a", "b"}) {
		t.Error(d.Dead(), d.Loose(), d.Used(), d.Names())
	}
	wrote := append([]byte{7}, a[1:]...)
	for range 2 {
		has(t, "nothing kept", d.Crash(), 0, row{"a", a})
		has(t, "all kept", d.Crash(true, true), 0, row{"a", wrote}, row{"b", nil})
	}
	c := d.Crash()
	for range 10 {
		is(t, "left, it runs", c.Sync("a"), api.OK)
	}
}

func TestCrashIsNotArmed(t *testing.T) {
	d := New(5)
	d.Arm(1)
	c := d.Crash()
	for range 5 {
		is(t, "left", c.SyncDir(), api.OK)
	}
	is(t, "a", d.Create("a"), api.OK)
	is(t, "b", d.Create("b"), api.ErrDead)
}

// Files that no crash can bring back are let go of.
func TestFilesThatAreGone(t *testing.T) {
	d := New(1 << 14)
	for range 50 {
		is(t, "Create", d.Create("a"), api.OK)
		is(t, "Write", d.Write("a", 0, text(1000, 0)), api.OK)
		is(t, "Sync", d.Sync("a"), api.OK)
		is(t, "SyncDir", d.SyncDir(), api.OK)
		is(t, "Unlink", d.Unlink("a"), api.OK)
		has(t, "not yet", d.Crash(), 0, row{"a", text(1000, 0)})
		is(t, "SyncDir", d.SyncDir(), api.OK)
	}
	if len(d.files) != 0 {
		t.Error(len(d.files), "files are kept")
	}
	is(t, "Create", d.Create("a"), api.OK)
	is(t, "Create", d.Create("b"), api.OK)
	numbers(t, d, map[string]int{"a": 50, "b": 51})
	is(t, "Write", d.Write("a", 0, text(1000, 0)), api.OK)
	is(t, "Unlink", d.Unlink("a"), api.OK)
	if c := d.Crash(kept(20)...); len(c.files) != 1 {
		t.Error(len(c.files), "files are left")
	}
}

// Nil, and made by nobody

// nothing tests that a disk takes nothing.
func nothing(t *testing.T, name string, d *Disk) {
	t.Helper()
	d.Arm(3)
	d.Arm(0)
	for range 2 {
		if !d.Dead() || d.Used() != 0 || d.Loose() != 0 || d.Crash() != nil || d.Crash(true, false) != nil {
			t.Errorf("%s: something is there", name)
		}
		for _, of := range []string{"a", "", "/"} {
			if n, e := d.Size(of); n != 0 || e != api.ErrNil {
				t.Errorf("%s, Size: %d, %d", name, n, e)
			}
			if b, e := d.Read(of, 0, 1); len(b) != 0 || e != api.ErrNil {
				t.Errorf("%s, Read: %x, %d", name, b, e)
			}
			is(t, name+", Create", d.Create(of), api.ErrNil)
			is(t, name+", Write", d.Write(of, 0, []byte{1}), api.ErrNil)
			is(t, name+", Write at no place", d.Write(of, -1, nil), api.ErrNil)
			is(t, name+", Truncate", d.Truncate(of, 1), api.ErrNil)
			is(t, name+", Truncate to no size", d.Truncate(of, -1), api.ErrNil)
			is(t, name+", Sync", d.Sync(of), api.ErrNil)
			is(t, name+", Rename", d.Rename(of, "/"), api.ErrNil)
			is(t, name+", Unlink", d.Unlink(of), api.ErrNil)
		}
		is(t, name+", SyncDir", d.SyncDir(), api.ErrNil)
	}
}

func TestNil(t *testing.T) { nothing(t, "nil", nil) }

func TestMadeByNobody(t *testing.T) {
	nothing(t, "a zero one", &Disk{})
	nothing(t, "a directory alone", &Disk{Dir: dir.New()})
}

// What is handed in, and what is told

func TestGivenStays(t *testing.T) {
	d := made(t, 100, row{"a", text(100, 0)})
	room := text(300, 6)
	is(t, "Write", d.Write("a", 30, room[:130]), api.OK)
	if !bytes.Equal(room, text(300, 6)) {
		t.Errorf("what was written is changed: %x", room)
	}
	want, _ := d.Read("a", 0, most)
	clear(room)
	told, _ := d.Read("a", 0, most)
	clear(told[:cap(told)])
	has(t, "written", d, 4, row{"a", want})
	keep := append(ones(0b1011, 4), true, true)
	was := slices.Clone(keep)
	c := d.Crash(keep[:4]...)
	if !slices.Equal(keep, was) {
		t.Error("what is kept is changed:", keep)
	}
	left, _ := c.Read("a", 0, most)
	clear(keep)
	has(t, "left", c, 0, row{"a", left})
}
