package dir

import (
	"math"
	"math/rand"
	"slices"
	"strings"
	"testing"

	"logbook/api"
)

// file is a name and its file.
type file struct {
	name string
	id   int
}

// has tests which names a directory has, each of which file, and how many things are pending.
func has(t *testing.T, name string, d *Dir, pending int, want ...file) {
	t.Helper()
	var names []string
	for _, f := range want {
		names = append(names, f.name)
		if id, ok := d.Get(f.name); !ok || id != f.id {
			t.Errorf("%s: Get of %q: %d, %v; want %d", name, f.name, id, ok, f.id)
		}
	}
	if have := d.Names(); !slices.Equal(have, names) {
		t.Errorf("%s: names %q; want %q", name, have, names)
	}
	if have := d.Pending(); have != pending {
		t.Errorf("%s: %d pending; want %d", name, have, pending)
	}
}

// lacks tests that names aren't there.
func lacks(t *testing.T, d *Dir, names ...string) {
	t.Helper()
	for _, name := range names {
		if id, ok := d.Get(name); id != 0 || ok {
			t.Errorf("Get of %q: %d, %v", name, id, ok)
		}
	}
}

func is(t *testing.T, name string, have, want api.Errno) {
	t.Helper()
	if have != want {
		t.Errorf("%s: %d; want %d", name, have, want)
	}
}

// made tells a directory of names, all of them safe.
func made(t *testing.T, l ...file) *Dir {
	t.Helper()
	d := New()
	for _, f := range l {
		is(t, "Create", d.Create(f.name, f.id), api.OK)
	}
	d.Sync()
	return d
}

// ones tells the trues of a number's bits, the least one first.
func ones(bits, n int) []bool {
	keep := make([]bool, n)
	for i := range keep {
		keep[i] = bits>>i&1 == 1
	}
	return keep
}

// kept tells so many trues.
func kept(n int) []bool { return ones(-1, n) }

// wrong are texts that are no names.
var wrong = []string{
	"", "/", "a/", "/a", "a/b", " ", "a ", " a", "a b", "\x00", "\x1f", "a\x00", "\x7f", "a\x7f", "\x80", "\xff",
	"a\n", "\t", "é", "a\u0301", strings.Repeat("a", 101), strings.Repeat("a", 100) + "/", strings.Repeat("a", 100) + " ",
	strings.Repeat("a", 200), strings.Repeat("a", 1<<16), "a\x20b", "\u2215",
}

// P7.1

func TestRightByBytes(t *testing.T) {
	for c := range 256 {
		want := 0x21 <= c && c <= 0x7e && c != 0x2f
		b := string([]byte{byte(c)})
		for _, name := range []string{b, b + "a", "a" + b, "a" + b + "a", b + strings.Repeat("a", 99), strings.Repeat("a", 99) + b} {
			if Right(name) != want {
				t.Errorf("Right of %q: %v", name, !want)
			}
		}
	}
}

func TestRightByLength(t *testing.T) {
	for n := range 300 {
		for _, c := range []string{"a", "!", "~", ".", "-"} {
			if have, want := Right(strings.Repeat(c, n)), 1 <= n && n <= 100; have != want {
				t.Errorf("Right of %d times %s: %v", n, c, have)
			}
		}
	}
}

func TestRightOfWrong(t *testing.T) {
	for _, name := range wrong {
		if Right(name) {
			t.Errorf("Right of %q", name)
		}
	}
}

func TestNew(t *testing.T) {
	d := New()
	has(t, "New", d, 0)
	lacks(t, d, "", "a", "/")
	is(t, "Create", d.Create("a", 1), api.OK)
	has(t, "another New", New(), 0)
}

func TestCreate(t *testing.T) {
	d := New()
	long := strings.Repeat("z", 100)
	for i, f := range []file{{"b", 7}, {"a", 0}, {"!", -1}, {"~", math.MaxInt}, {long, math.MinInt}, {"b.b", 7}} {
		is(t, f.name, d.Create(f.name, f.id), api.OK)
		if id, ok := d.Get(f.name); id != f.id || !ok || d.Pending() != i+1 {
			t.Errorf("%q: %d, %v, %d pending", f.name, id, ok, d.Pending())
		}
	}
	has(t, "created", d, 6, file{"!", -1}, file{"a", 0}, file{"b", 7}, file{"b.b", 7}, file{long, math.MinInt}, file{"~", math.MaxInt})
	lacks(t, d, "", "B", "bb", "b.", "b.b.", long[:99], long+"z")
}

func TestCreateTwice(t *testing.T) {
	d := made(t, file{"a", 1})
	is(t, "safe", d.Create("a", 1), api.ErrTwice)
	is(t, "safe, of another file", d.Create("a", 2), api.ErrTwice)
	has(t, "safe", d, 0, file{"a", 1})
	is(t, "b", d.Create("b", 2), api.OK)
	is(t, "pending", d.Create("b", 3), api.ErrTwice)
	has(t, "pending", d, 1, file{"a", 1}, file{"b", 2})
	is(t, "Rename", d.Rename("b", "c"), api.OK)
	is(t, "what it was renamed to", d.Create("c", 3), api.ErrTwice)
	is(t, "what it was renamed from", d.Create("b", 4), api.OK)
	is(t, "Unlink", d.Unlink("a"), api.OK)
	is(t, "what was taken away", d.Create("a", 5), api.OK)
	is(t, "what was taken away, again", d.Create("a", 6), api.ErrTwice)
	has(t, "all", d, 5, file{"a", 5}, file{"b", 4}, file{"c", 2})
	has(t, "left", d.Crash(kept(5)...), 0, file{"a", 5}, file{"b", 4}, file{"c", 2})
}

func TestWrongNames(t *testing.T) {
	for _, name := range wrong {
		d := made(t, file{"a", 1})
		is(t, "Create", d.Create(name, 2), api.ErrArg)
		is(t, "Rename to it", d.Rename("a", name), api.ErrArg)
		is(t, "Rename from it", d.Rename(name, "b"), api.ErrNone)
		is(t, "Rename from it to it", d.Rename(name, name), api.ErrNone)
		is(t, "Unlink", d.Unlink(name), api.ErrNone)
		lacks(t, d, name)
		has(t, "refused", d, 0, file{"a", 1})
		has(t, "refused and left", d.Crash(kept(5)...), 0, file{"a", 1})
	}
}

func TestRename(t *testing.T) {
	long := strings.Repeat("z", 100)
	for _, c := range []struct {
		name, from, to string
		want           []file
	}{
		{"to a new name", "a", "c", []file{{"b", 2}, {"c", 1}}},
		{"to a long one", "b", long, []file{{"a", 1}, {long, 2}}},
		{"to one that is there", "a", "b", []file{{"b", 1}}},
		{"to one that is there, above", "b", "a", []file{{"a", 2}}},
		{"to itself", "a", "a", []file{{"a", 1}, {"b", 2}}},
	} {
		d := made(t, file{"b", 2}, file{"a", 1})
		is(t, c.name, d.Rename(c.from, c.to), api.OK)
		has(t, c.name, d, 1, c.want...)
		has(t, c.name+", left", d.Crash(true), 0, c.want...)
		has(t, c.name+", lost", d.Crash(false), 0, file{"a", 1}, file{"b", 2})
		if c.from != c.to {
			lacks(t, d, c.from)
		}
	}
}

func TestRenameOfNone(t *testing.T) {
	d := made(t, file{"a", 0})
	for _, from := range []string{"b", "A", "aa", "", "/"} {
		for _, to := range []string{"a", "c", from, "", "/"} {
			is(t, from+" to "+to, d.Rename(from, to), api.ErrNone)
		}
	}
	has(t, "refused", d, 0, file{"a", 0})
	is(t, "Rename", d.Rename("a", "b"), api.OK)
	is(t, "again", d.Rename("a", "b"), api.ErrNone)
	has(t, "once", d, 1, file{"b", 0})
}

func TestUnlink(t *testing.T) {
	d := made(t, file{"a", 1}, file{"b", 0}, file{"c", 3})
	is(t, "Unlink", d.Unlink("b"), api.OK)
	has(t, "unlinked", d, 1, file{"a", 1}, file{"c", 3})
	lacks(t, d, "b")
	for _, name := range []string{"b", "B", "aa", "", "/", "d"} {
		is(t, name, d.Unlink(name), api.ErrNone)
	}
	has(t, "refused", d, 1, file{"a", 1}, file{"c", 3})
	is(t, "Create", d.Create("d", 4), api.OK)
	is(t, "what is pending", d.Unlink("d"), api.OK)
	is(t, "the first", d.Unlink("a"), api.OK)
	is(t, "the last", d.Unlink("c"), api.OK)
	has(t, "none", d, 5)
	has(t, "left", d.Crash(kept(5)...), 0)
}

// P7.2

func TestGet(t *testing.T) {
	d := made(t, file{"a", 5}, file{"b", 0}, file{"c", -5})
	has(t, "safe", d, 0, file{"a", 5}, file{"b", 0}, file{"c", -5})
	lacks(t, d, "d", "A", "", "/", "aa", "a\x00", " ")
	has(t, "asked", d, 0, file{"a", 5}, file{"b", 0}, file{"c", -5})
}

func TestNamesRise(t *testing.T) {
	want := []string{"!", "-", "0", "1", "10", "2", "A", "AA", "B", "_", "a", "a!", "a0", "aA", "aa", "ab", "b", "~", "~~"}
	for seed := range 20 {
		d := New()
		for id, i := range rand.New(rand.NewSource(int64(seed))).Perm(len(want)) {
			is(t, want[i], d.Create(want[i], id), api.OK)
		}
		for range 3 {
			if have := d.Names(); !slices.Equal(have, want) {
				t.Fatalf("names %q", have)
			}
		}
	}
}

func TestNamesAreTheirOwn(t *testing.T) {
	d := made(t, file{"a", 1}, file{"b", 2})
	for _, l := range [][]string{d.Names(), d.Names(), d.Crash().Names()} {
		l[0], l[1] = "x", "y"
		_ = append(l, "z")
	}
	has(t, "changed what was told", d, 0, file{"a", 1}, file{"b", 2})
	l := d.Names()
	is(t, "Unlink", d.Unlink("a"), api.OK)
	is(t, "Create", d.Create("c", 3), api.OK)
	if !slices.Equal(l, []string{"a", "b"}) {
		t.Errorf("what was told changes with the directory: %q", l)
	}
}

// P7.3

func TestPending(t *testing.T) {
	d := New()
	for _, c := range []struct {
		name    string
		do      func() api.Errno
		want    api.Errno
		pending int
	}{
		{"create", func() api.Errno { return d.Create("a", 1) }, api.OK, 1},
		{"create it twice", func() api.Errno { return d.Create("a", 1) }, api.ErrTwice, 1},
		{"create a wrong one", func() api.Errno { return d.Create("/", 1) }, api.ErrArg, 1},
		{"create another", func() api.Errno { return d.Create("b", 1) }, api.OK, 2},
		{"rename", func() api.Errno { return d.Rename("a", "c") }, api.OK, 3},
		{"rename none", func() api.Errno { return d.Rename("a", "c") }, api.ErrNone, 3},
		{"rename to a wrong one", func() api.Errno { return d.Rename("b", "") }, api.ErrArg, 3},
		{"rename to itself", func() api.Errno { return d.Rename("b", "b") }, api.OK, 4},
		{"rename over another", func() api.Errno { return d.Rename("b", "c") }, api.OK, 5},
		{"unlink", func() api.Errno { return d.Unlink("c") }, api.OK, 6},
		{"unlink none", func() api.Errno { return d.Unlink("c") }, api.ErrNone, 6},
		{"create again", func() api.Errno { return d.Create("c", 1) }, api.OK, 7},
	} {
		is(t, c.name, c.do(), c.want)
		if d.Pending() != c.pending {
			t.Errorf("%s: %d pending; want %d", c.name, d.Pending(), c.pending)
		}
	}
	d.Sync()
	has(t, "synced", d, 0, file{"c", 1})
}

func TestSync(t *testing.T) {
	d := New()
	d.Sync()
	has(t, "nothing", d, 0)
	is(t, "Create", d.Create("a", 1), api.OK)
	is(t, "Create", d.Create("b", 2), api.OK)
	has(t, "not yet", d.Crash(), 0)
	d.Sync()
	has(t, "safe", d, 0, file{"a", 1}, file{"b", 2})
	has(t, "crashed", d.Crash(), 0, file{"a", 1}, file{"b", 2})
	has(t, "crashed, keeping what isn't there", d.Crash(true, true, true), 0, file{"a", 1}, file{"b", 2})
	is(t, "Rename", d.Rename("a", "b"), api.OK)
	is(t, "Create", d.Create("c", 3), api.OK)
	has(t, "more isn't", d.Crash(), 0, file{"a", 1}, file{"b", 2})
	d.Sync()
	d.Sync()
	is(t, "Unlink", d.Unlink("c"), api.OK)
	has(t, "safe, one less", d, 1, file{"b", 1})
	has(t, "crashed, one less", d.Crash(), 0, file{"b", 1}, file{"c", 3})
}

// What is kept is done to what is there then, which isn't what was there when it was done first.
func TestCrash(t *testing.T) {
	d := made(t, file{"a", 1}, file{"b", 2})
	is(t, "unlink a", d.Unlink("a"), api.OK)
	is(t, "create a", d.Create("a", 3), api.OK)
	is(t, "a to c", d.Rename("a", "c"), api.OK)
	is(t, "c to b", d.Rename("c", "b"), api.OK)
	is(t, "create c", d.Create("c", 4), api.OK)
	is(t, "unlink b", d.Unlink("b"), api.OK)
	a, b := file{"a", 1}, file{"b", 2}
	for _, c := range []struct {
		name string
		keep []bool
		want []file
	}{
		{"nothing", nil, []file{a, b}},
		{"nothing, told", make([]bool, 6), []file{a, b}},
		{"unlink a", ones(0b1, 1), []file{b}},
		{"create a, over what was", ones(0b10, 6), []file{{"a", 3}, b}},
		{"both", ones(0b11, 2), []file{{"a", 3}, b}},
		{"a to c, of the file that was", ones(0b100, 6), []file{b, {"c", 1}}},
		{"a to c, of none", ones(0b101, 6), []file{b}},
		{"a to c, of the new file", ones(0b110, 6), []file{b, {"c", 3}}},
		{"c to b, of none", ones(0b1000, 6), []file{a, b}},
		{"c to b, of the file that was a", ones(0b1100, 6), []file{{"b", 1}}},
		{"c to b, of the new file", ones(0b1110, 6), []file{{"b", 3}}},
		{"create c", ones(0b10000, 6), []file{a, b, {"c", 4}}},
		{"create c, over a's", ones(0b10100, 6), []file{b, {"c", 4}}},
		{"create c behind c to b", ones(0b11100, 6), []file{{"b", 1}, {"c", 4}}},
		{"unlink b", ones(0b100000, 6), []file{a}},
		{"unlink b, that was a's", ones(0b101100, 6), nil},
		{"all", kept(6), []file{{"c", 4}}},
		{"all and more", kept(20), []file{{"c", 4}}},
	} {
		has(t, c.name, d.Crash(c.keep...), 0, c.want...)
	}
	has(t, "d", d, 6, file{"c", 4})
}

func TestCrashOfWhatIsNotThere(t *testing.T) {
	d := New()
	is(t, "Create", d.Create("A", 1), api.OK)
	is(t, "Rename", d.Rename("A", "B"), api.OK)
	has(t, "the second alone", d.Crash(false, true), 0)
	is(t, "Rename", d.Rename("B", "B"), api.OK)
	is(t, "Unlink", d.Unlink("B"), api.OK)
	has(t, "to itself", d.Crash(false, false, true), 0)
	has(t, "to itself, A there", d.Crash(true, false, true), 0, file{"A", 1})
	has(t, "to itself, B there", d.Crash(true, true, true), 0, file{"B", 1})
	has(t, "unlinked", d.Crash(false, false, false, true), 0)
	has(t, "unlinked, A there", d.Crash(true, false, false, true), 0, file{"A", 1})
}

// A rename that has nothing to do leaves what has the other name.
func TestCrashLeavesWhatIsThere(t *testing.T) {
	d := made(t, file{"b", 2})
	is(t, "Create", d.Create("a", 1), api.OK)
	is(t, "Rename", d.Rename("a", "b"), api.OK)
	has(t, "d", d, 2, file{"b", 1})
	has(t, "of none", d.Crash(false, true), 0, file{"b", 2})
	has(t, "the create alone", d.Crash(true), 0, file{"a", 1}, file{"b", 2})
	has(t, "both", d.Crash(true, true), 0, file{"b", 1})
}

func TestCrashIsSafe(t *testing.T) {
	d := made(t, file{"a", 1})
	is(t, "Create", d.Create("b", 2), api.OK)
	is(t, "Unlink", d.Unlink("a"), api.OK)
	c := d.Crash(true)
	has(t, "crashed", c, 0, file{"a", 1}, file{"b", 2})
	has(t, "crashed twice", c.Crash(), 0, file{"a", 1}, file{"b", 2})
	has(t, "crashed thrice", c.Crash(true, true).Crash(true, true), 0, file{"a", 1}, file{"b", 2})
}

func TestCrashGoesItsOwnWay(t *testing.T) {
	d := made(t, file{"a", 1})
	is(t, "Create", d.Create("b", 2), api.OK)
	for _, keep := range [][]bool{nil, {true}} {
		c := d.Crash(keep...)
		is(t, "Create", c.Create("c", 3), api.OK)
		is(t, "Unlink", c.Unlink("a"), api.OK)
		has(t, "what was left, changed and crashed", c.Crash(keep...).Crash(), 0, files(c.Crash(keep...))...)
		c.Sync()
		is(t, "Create", c.Create("a", 4), api.OK)
		has(t, "d, what was left changed", d, 1, file{"a", 1}, file{"b", 2})
		has(t, "d's crash, what was left changed", d.Crash(), 0, file{"a", 1})
		has(t, "d's other crash", d.Crash(true), 0, file{"a", 1}, file{"b", 2})
	}
	c, e := d.Crash(true), d.Crash()
	is(t, "Unlink", d.Unlink("a"), api.OK)
	d.Sync()
	is(t, "Unlink", d.Unlink("b"), api.OK)
	has(t, "d", d, 1)
	has(t, "what was left, d changed", c, 0, file{"a", 1}, file{"b", 2})
	has(t, "what was left, d changed, and crashed", c.Crash(), 0, file{"a", 1}, file{"b", 2})
	has(t, "what was safe, d changed", e, 0, file{"a", 1})
	has(t, "what was safe, d changed, and crashed", e.Crash(), 0, file{"a", 1})
}

// files tells what a directory has, as its calls tell it.
func files(d *Dir) []file {
	var l []file
	for _, name := range d.Names() {
		id, _ := d.Get(name)
		l = append(l, file{name, id})
	}
	return l
}

func TestKeepStays(t *testing.T) {
	d := New()
	for i, name := range []string{"a", "b", "c", "d"} {
		is(t, name, d.Create(name, i), api.OK)
	}
	keep := append(ones(0b1011, 4), true, true)
	was := slices.Clone(keep)
	c := d.Crash(keep[:4]...)
	if !slices.Equal(keep, was) {
		t.Error("what is kept is changed:", keep)
	}
	clear(keep)
	has(t, "left", c, 0, file{"a", 0}, file{"b", 1}, file{"d", 3})
	has(t, "d", d, 4, file{"a", 0}, file{"b", 1}, file{"c", 2}, file{"d", 3})
}

// slow is the chapter's directory, in rows, with what was done as functions.
type slow struct {
	now, safe []file
	done      []func(l []file) []file
}

func find(l []file, name string) int {
	for i, f := range l {
		if f.name == name {
			return i
		}
	}
	return -1
}

func without(l []file, name string) []file {
	var left []file
	for _, f := range l {
		if f.name != name {
			left = append(left, f)
		}
	}
	return left
}

// with tells rows with one of a name, in their order.
func with(l []file, name string, id int) []file {
	l = append(without(l, name), file{name, id})
	slices.SortFunc(l, func(a, b file) int { return strings.Compare(a.name, b.name) })
	return l
}

func (m *slow) did(do func(l []file) []file) api.Errno {
	m.now = do(m.now)
	m.done = append(m.done, do)
	return api.OK
}

func (m *slow) create(name string, id int) api.Errno {
	if find(m.now, name) >= 0 {
		return api.ErrTwice
	}
	if !Right(name) {
		return api.ErrArg
	}
	return m.did(func(l []file) []file { return with(l, name, id) })
}

func (m *slow) rename(from, to string) api.Errno {
	if find(m.now, from) < 0 {
		return api.ErrNone
	}
	if !Right(to) {
		return api.ErrArg
	}
	return m.did(func(l []file) []file {
		i := find(l, from)
		if i < 0 || from == to {
			return l
		}
		return with(without(l, from), to, l[i].id)
	})
}

func (m *slow) unlink(name string) api.Errno {
	if find(m.now, name) < 0 {
		return api.ErrNone
	}
	return m.did(func(l []file) []file { return without(l, name) })
}

func (m *slow) sync() { m.safe, m.done = m.now, nil }

func (m *slow) crash(keep []bool) []file {
	l := m.safe
	for i, do := range m.done {
		if i < len(keep) && keep[i] {
			l = do(l)
		}
	}
	return l
}

// chance does one thing to a directory and to the chapter's.
func chance(t *testing.T, r *rand.Rand, d *Dir, m *slow) {
	t.Helper()
	names := []string{"a", "b", "c", "d", "e", "", "a/b"}
	name, to, id := names[r.Intn(len(names))], names[r.Intn(len(names))], r.Intn(100)
	switch r.Intn(3) {
	case 0:
		is(t, "create "+name, d.Create(name, id), m.create(name, id))
	case 1:
		is(t, "rename "+name+" to "+to, d.Rename(name, to), m.rename(name, to))
	case 2:
		is(t, "unlink "+name, d.Unlink(name), m.unlink(name))
	}
	has(t, "by chance", d, len(m.done), m.now...)
}

// Whatever is kept, it is done in the order in which it was.
func TestCrashOfEachPart(t *testing.T) {
	for seed := range 60 {
		r := rand.New(rand.NewSource(int64(seed)))
		d, m := New(), slow{}
		for range 10 {
			chance(t, r, d, &m)
		}
		d.Sync()
		m.sync()
		for len(m.done) < 7 {
			chance(t, r, d, &m)
		}
		for bits := range 1 << 7 {
			keep := ones(bits, r.Intn(9))
			has(t, "a part", d.Crash(keep...), 0, m.crash(keep)...)
		}
		has(t, "d", d, len(m.done), m.now...)
	}
}

func TestManySteps(t *testing.T) {
	for seed := range 100 {
		r := rand.New(rand.NewSource(int64(seed)))
		d, m := New(), slow{}
		for range 80 {
			switch r.Intn(10) {
			case 0:
				d.Sync()
				m.sync()
			case 1:
				keep := ones(r.Int(), r.Intn(40))
				has(t, "crashed", d.Crash(keep...), 0, m.crash(keep)...)
			case 2:
				keep := ones(r.Int(), r.Intn(40))
				d, m.now = d.Crash(keep...), m.crash(keep)
				m.sync()
			default:
				chance(t, r, d, &m)
			}
			has(t, "step by step", d, len(m.done), m.now...)
		}
	}
}

func TestManyNames(t *testing.T) {
	d := New()
	for i := range 20000 {
		name := string([]byte{'a' + byte(i>>12), 'a' + byte(i>>8&15), 'a' + byte(i>>4&15), 'a' + byte(i&15)})
		is(t, name, d.Create(name, i), api.OK)
		if i%2 == 1 {
			is(t, name, d.Unlink(name), api.OK)
		}
		d.Sync()
	}
	l := d.Crash().Names()
	if len(l) != 10000 || !slices.IsSorted(l) || !slices.Equal(l, d.Names()) || d.Pending() != 0 {
		t.Error(len(l), "names", d.Pending(), "pending")
	}
}

// Nil, and made by nobody

// nothing tests that a directory has no names and takes none.
func nothing(t *testing.T, name string, d *Dir) {
	t.Helper()
	for range 2 {
		has(t, name, d, 0)
		lacks(t, d, "", "a", "/")
		is(t, name+", Create", d.Create("a", 1), api.ErrNil)
		is(t, name+", Create of a wrong name", d.Create("", 1), api.ErrNil)
		is(t, name+", Rename", d.Rename("a", "b"), api.ErrNil)
		is(t, name+", Rename to itself", d.Rename("a", "a"), api.ErrNil)
		is(t, name+", Rename to a wrong name", d.Rename("a", "/"), api.ErrNil)
		is(t, name+", Unlink", d.Unlink("a"), api.ErrNil)
		is(t, name+", Unlink of a wrong name", d.Unlink("/"), api.ErrNil)
		d.Sync()
	}
}

func TestNil(t *testing.T) {
	nothing(t, "nil", nil)
	var d *Dir
	if d.Crash() != nil || d.Crash(true, false) != nil {
		t.Error("Crash of nil")
	}
}

func TestMadeByNobody(t *testing.T) {
	nothing(t, "a zero one", &Dir{})
	var d Dir
	nothing(t, "a variable", &d)
	for _, keep := range [][]bool{nil, {true}, {false, true}} {
		c := d.Crash(keep...)
		if c == nil {
			t.Fatal("Crash of one that nobody made is nil")
		}
		has(t, "left", c, 0)
	}
	nothing(t, "behind a crash", &d)
}
