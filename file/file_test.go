package file

import (
	"bytes"
	"math"
	"math/rand"
	"slices"
	"testing"

	"logbook/api"
)

// most is how many bytes a file has at most.
const most = 1 << 20

// text tells n bytes, none of them 0, which differ by their salt, with no room behind them.
func text(n, salt int) []byte {
	b := make([]byte, n)
	for i := range b {
		b[i] = byte((i*37+salt*101)%255) + 1
	}
	return b
}

// made tells a file of n bytes, all of them safe.
func made(t *testing.T, n int) *File {
	t.Helper()
	f := New()
	write(t, f, 0, text(n, 0))
	f.Sync()
	return f
}

func write(t *testing.T, f *File, at int, b []byte) {
	t.Helper()
	if e := f.Write(at, b); e != api.OK {
		t.Fatalf("Write of %d bytes at %d: %d", len(b), at, e)
	}
}

func truncate(t *testing.T, f *File, n int) {
	t.Helper()
	if e := f.Truncate(n); e != api.OK {
		t.Fatalf("Truncate to %d: %d", n, e)
	}
}

// all tells a file's bytes.
func all(f *File) []byte { return f.Read(0, most) }

// has tests what a file has, and how many things are pending.
func has(t *testing.T, name string, f *File, want []byte, pending int) {
	t.Helper()
	if have := all(f); !bytes.Equal(have, want) || f.Len() != len(want) {
		t.Errorf("%s: %d bytes: %x; want %d: %x", name, f.Len(), short(have), len(want), short(want))
	}
	if f.Pending() != pending {
		t.Errorf("%s: %d pending; want %d", name, f.Pending(), pending)
	}
}

func short(b []byte) []byte { return b[:min(len(b), 400)] }

// kept tells so many trues.
func kept(n int) []bool {
	keep := make([]bool, n)
	for i := range keep {
		keep[i] = true
	}
	return keep
}

// ones tells the trues of a number's bits, the least one first.
func ones(bits, n int) []bool {
	keep := make([]bool, n)
	for i := range keep {
		keep[i] = bits>>i&1 == 1
	}
	return keep
}

// slow is the chapter's file, byte by byte, with what was done as functions.
type slow struct {
	now, safe []byte
	done      []func(b []byte) []byte
}

// sized tells bytes of another size.
func sized(b []byte, n int) []byte {
	var s []byte
	for i := 0; i < n; i++ {
		if i < len(b) {
			s = append(s, b[i])
		} else {
			s = append(s, 0)
		}
	}
	return s
}

func (m *slow) keepSize(n int) {
	m.done = append(m.done, func(b []byte) []byte { return sized(b, n) })
}

func (m *slow) keepSector(n int) {
	was := sized(m.now, n*64+64)[n*64:]
	m.done = append(m.done, func(b []byte) []byte {
		set := sized(b, len(b))
		for i, x := range was {
			if n*64+i < len(set) {
				set[n*64+i] = x
			}
		}
		return set
	})
}

func (m *slow) write(at int, b []byte) {
	if len(b) == 0 {
		return
	}
	end := at + len(b)
	longer := end > len(m.now)
	m.now = sized(m.now, max(end, len(m.now)))
	for i, x := range b {
		m.now[at+i] = x
	}
	if longer {
		m.keepSize(end)
	}
	for n := at / 64; n*64 < end; n++ {
		m.keepSector(n)
	}
}

func (m *slow) truncate(n int) {
	if n == len(m.now) {
		return
	}
	m.now = sized(m.now, n)
	m.keepSize(n)
}

func (m *slow) sync() { m.safe, m.done = sized(m.now, len(m.now)), nil }

func (m *slow) crash(keep []bool) []byte {
	b := m.safe
	for i, do := range m.done {
		if i < len(keep) && keep[i] {
			b = do(b)
		}
	}
	return b
}

// P6.1

func TestNew(t *testing.T) {
	f := New()
	has(t, "New", f, nil, 0)
	has(t, "New's crash", f.Crash(true, true), nil, 0)
	write(t, f, 0, []byte{1})
	has(t, "another New", New(), nil, 0)
}

func TestRead(t *testing.T) {
	places := []int{math.MinInt, -65, -64, -2, -1, 0, 1, 2, 62, 63, 64, 65, 99, 100, 101, 127, 128, 200, most, 1 << 40, math.MaxInt}
	for _, size := range []int{0, 1, 2, 63, 64, 65, 100, 128} {
		f := made(t, size)
		for _, at := range places {
			for _, n := range places {
				var want []byte
				for i, x := range text(size, 0) {
					if at >= 0 && n >= 1 && i >= at && i-at < n {
						want = append(want, x)
					}
				}
				if have := f.Read(at, n); !bytes.Equal(have, want) {
					t.Fatalf("Read of %d at %d of %d bytes: %x; want %x", n, at, size, have, want)
				}
			}
		}
		has(t, "read", f, text(size, 0), 0)
	}
}

func TestReadIsItsOwn(t *testing.T) {
	f := made(t, 100)
	write(t, f, 10, text(70, 1))
	want := all(f)
	for _, b := range [][]byte{f.Read(0, 100), f.Read(3, 5), f.Read(64, 500), f.Crash().Read(0, 100)} {
		clear(b[:cap(b)])
	}
	has(t, "changed what was read", f, want, 2)
	has(t, "crash of it", f.Crash(), text(100, 0), 0)
	b := f.Read(0, 100)
	write(t, f, 0, text(100, 2))
	if !bytes.Equal(b, want) {
		t.Errorf("what was read changes with the file: %x", b)
	}
}

// P6.2

func TestWrite(t *testing.T) {
	sizes := []int{0, 1, 2, 63, 64, 65, 66, 100, 127, 128, 129, 200}
	for _, size := range sizes {
		for at := range 200 {
			for _, n := range sizes {
				f, m := made(t, size), slow{now: text(size, 0)}
				write(t, f, at, text(n, 1))
				m.write(at, text(n, 1))
				if !bytes.Equal(all(f), m.now) || f.Len() != len(m.now) || f.Pending() != len(m.done) {
					t.Fatalf("%d bytes written into %d at %d: %d pending, %x; want %d, %x", n, size, at, f.Pending(), all(f), len(m.done), m.now)
				}
			}
		}
	}
}

func TestWriteOfNothing(t *testing.T) {
	for _, size := range []int{0, 1, 64, 100} {
		for _, at := range []int{0, 1, 50, 100, 101, 1000, most - 1, most} {
			f := made(t, size)
			write(t, f, at, nil)
			write(t, f, at, []byte{})
			has(t, "nothing written", f, text(size, 0), 0)
		}
	}
}

func TestWriteWhereNoneCanBe(t *testing.T) {
	for _, c := range []struct{ at, n int }{
		{-1, 0}, {-1, 1}, {-1, 2}, {-64, 64}, {-64, 65}, {math.MinInt, 0}, {math.MinInt, 1}, {math.MinInt, 100},
		{most, 1}, {most - 1, 2}, {most - 63, 64}, {0, most + 1}, {1, most}, {most + 1, 0}, {most + 1, 1},
		{1 << 40, 1}, {math.MaxInt, 0}, {math.MaxInt, 1}, {math.MaxInt, 2}, {math.MaxInt - 63, 64}, {math.MaxInt - 63, 65},
	} {
		f := made(t, 100)
		write(t, f, 0, []byte{1, 2})
		want := all(f)
		if e := f.Write(c.at, text(c.n, 1)); e != api.ErrArg {
			t.Errorf("Write of %d bytes at %d: %d", c.n, c.at, e)
		}
		has(t, "refused", f, want, 1)
		has(t, "refused, all kept", f.Crash(true), want, 0)
	}
}

func TestWriteUpToTheLimit(t *testing.T) {
	f := New()
	write(t, f, most-1, []byte{7})
	has(t, "the last byte", f, append(make([]byte, most-1), 7), 2)
	has(t, "the last sector", f.Crash(true, true), all(f), 0)

	f = New()
	write(t, f, 0, text(most, 1))
	has(t, "all bytes", f, text(most, 1), 1+most/64)
	has(t, "all sectors", f.Crash(kept(f.Pending())...), text(most, 1), 0)
	write(t, f, most-2, []byte{8, 9})
	has(t, "two more", f, append(text(most, 1)[:most-2], 8, 9), 2+most/64)
}

func TestTruncate(t *testing.T) {
	for size := range 140 {
		for _, n := range []int{0, 1, 2, 62, 63, 64, 65, 100, 127, 128, 129, 139, 140, 500} {
			f := made(t, size)
			truncate(t, f, n)
			pending := 1
			if n == size {
				pending = 0
			}
			has(t, "truncated", f, sized(text(size, 0), n), pending)
			truncate(t, f, n)
			has(t, "truncated twice", f, sized(text(size, 0), n), pending)
		}
	}
	f := made(t, 3)
	truncate(t, f, most)
	has(t, "the limit", f, sized(text(3, 0), most), 1)
}

func TestTruncateToNoSize(t *testing.T) {
	for _, n := range []int{math.MinInt, math.MinInt32, -64, -1, most + 1, 1 << 31, 1 << 40, math.MaxInt} {
		f := made(t, 70)
		if e := f.Truncate(n); e != api.ErrArg {
			t.Errorf("Truncate to %d: %d", n, e)
		}
		has(t, "refused", f, text(70, 0), 0)
	}
}

// What was cut off is nought when there is room for it again.
func TestWhatWasCutOffStaysOff(t *testing.T) {
	f := made(t, 200)
	truncate(t, f, 10)
	truncate(t, f, 150)
	has(t, "truncated", f, sized(text(10, 0), 150), 2)
	truncate(t, f, 5)
	write(t, f, 8, []byte{9})
	has(t, "written behind it", f, append(sized(text(5, 0), 8), 9), 5)
	f.Sync()
	truncate(t, f, 0)
	truncate(t, f, 9)
	has(t, "crashed", f.Crash(true, true), make([]byte, 9), 0)
}

// P6.3

func TestPending(t *testing.T) {
	f := New()
	for _, c := range []struct {
		name      string
		do        func() api.Errno
		len, want int
	}{
		{"across two sectors, of a new file", func() api.Errno { return f.Write(63, []byte{1, 2}) }, 65, 3},
		{"inside", func() api.Errno { return f.Write(10, []byte{1, 2}) }, 65, 4},
		{"the same again", func() api.Errno { return f.Write(10, []byte{1, 2}) }, 65, 5},
		{"across, inside", func() api.Errno { return f.Write(62, []byte{1, 2, 3}) }, 65, 7},
		{"up to the end", func() api.Errno { return f.Write(64, []byte{1}) }, 65, 8},
		{"over the end", func() api.Errno { return f.Write(64, []byte{1, 2}) }, 66, 10},
		{"behind the end", func() api.Errno { return f.Write(300, []byte{1}) }, 301, 12},
		{"nothing", func() api.Errno { return f.Write(500, nil) }, 301, 12},
		{"shorter", func() api.Errno { return f.Truncate(40) }, 40, 13},
		{"as long", func() api.Errno { return f.Truncate(40) }, 40, 13},
		{"longer", func() api.Errno { return f.Truncate(400) }, 400, 14},
		{"a whole sector", func() api.Errno { return f.Write(64, text(64, 1)) }, 400, 15},
		{"a byte more", func() api.Errno { return f.Write(64, text(65, 1)) }, 400, 17},
	} {
		if e := c.do(); e != api.OK || f.Pending() != c.want || f.Len() != c.len {
			t.Errorf("%s: %d, %d pending, %d bytes; want %d, %d", c.name, e, f.Pending(), f.Len(), c.want, c.len)
		}
	}
}

func TestSync(t *testing.T) {
	f := New()
	f.Sync()
	has(t, "nothing", f, nil, 0)
	write(t, f, 60, text(70, 1))
	want := all(f)
	has(t, "not yet", f.Crash(), nil, 0)
	f.Sync()
	has(t, "safe", f, want, 0)
	has(t, "crashed", f.Crash(), want, 0)
	has(t, "crashed, keeping what isn't there", f.Crash(true, true, true), want, 0)
	write(t, f, 0, []byte{1})
	has(t, "more isn't", f.Crash(), want, 0)
	f.Sync()
	f.Sync()
	truncate(t, f, 3)
	has(t, "safe, and shorter", f.Crash(), append([]byte{1}, want[1:]...), 0)
}

// P6.4

// The pieces are kept as they were when they were written, whole, and with noughts where the file ended then.
func TestCrash(t *testing.T) {
	f := made(t, 100)
	write(t, f, 60, text(10, 1))
	write(t, f, 98, text(4, 2))
	write(t, f, 120, text(3, 3))
	truncate(t, f, 62)
	// Sector 0, sector 1; size 102, sector 1; size 123, sector 1; size 62.
	was := text(100, 0)
	first := slices.Concat(was[:60], text(10, 1), was[70:])
	second := slices.Concat(first[:98], text(4, 2))
	third := slices.Concat(second, make([]byte, 18), text(3, 3))
	for _, c := range []struct {
		name string
		keep []bool
		want []byte
	}{
		{"nothing", nil, was},
		{"nothing, told", []bool{false, false, false, false, false, false, false}, was},
		{"sector 0", []bool{true}, slices.Concat(first[:64], was[64:])},
		{"sector 1 without sector 0", []bool{false, true}, slices.Concat(was[:64], first[64:])},
		{"the first write", []bool{true, true}, first},
		{"a size alone", []bool{false, false, true}, sized(was, 102)},
		{"a sector as far as the old size goes", []bool{false, false, false, true}, slices.Concat(was[:64], second[64:100])},
		{"two writes", kept(4), second},
		{"a later size without the sector", []bool{true, true, false, false, true}, sized(first, 123)},
		{"a later sector without the writes ahead", []bool{false, false, false, false, false, true}, slices.Concat(was[:64], third[64:100])},
		{"a later sector at an earlier size", []bool{false, false, true, false, false, true}, slices.Concat(was[:64], third[64:102])},
		{"an earlier sector ahead of a later size", []bool{false, false, false, true, true}, sized(slices.Concat(was[:64], second[64:100]), 123)},
		{"the last size alone", []bool{false, false, false, false, false, false, true}, was[:62]},
		{"all", kept(7), third[:62]},
		{"all and more", kept(20), third[:62]},
	} {
		has(t, c.name, f.Crash(c.keep...), c.want, 0)
	}
	has(t, "f", f, third[:62], 7)
}

func TestCrashIsSafe(t *testing.T) {
	f := made(t, 10)
	write(t, f, 5, text(10, 1))
	g := f.Crash(true)
	has(t, "crashed", g, sized(text(10, 0), 15), 0)
	has(t, "crashed twice", g.Crash(), sized(text(10, 0), 15), 0)
	has(t, "crashed thrice", g.Crash(true, true).Crash(true), sized(text(10, 0), 15), 0)
}

// Whatever is kept of sizes and sectors, it is done in the order in which it was.
func TestCrashOfEachPart(t *testing.T) {
	for seed := range 60 {
		r := rand.New(rand.NewSource(int64(seed)))
		n := r.Intn(200)
		f, m := made(t, n), slow{now: text(n, 0), safe: text(n, 0)}
		for len(m.done) < 7 {
			chance(t, r, f, &m)
		}
		for bits := range 1 << 7 {
			keep := ones(bits, r.Intn(9))
			has(t, "a part", f.Crash(keep...), m.crash(keep), 0)
		}
		has(t, "f", f, m.now, len(m.done))
	}
}

// chance does one thing to a file and to the chapter's.
func chance(t *testing.T, r *rand.Rand, f *File, m *slow) {
	t.Helper()
	if r.Intn(3) == 0 {
		n := r.Intn(300)
		truncate(t, f, n)
		m.truncate(n)
		return
	}
	at, b := r.Intn(300), text(r.Intn(150), r.Intn(100))
	write(t, f, at, b)
	m.write(at, b)
}

func TestManySteps(t *testing.T) {
	for seed := range 100 {
		r := rand.New(rand.NewSource(int64(seed)))
		f, m := New(), slow{}
		for range 60 {
			switch r.Intn(8) {
			case 0:
				f.Sync()
				m.sync()
			case 1:
				keep := ones(r.Int(), r.Intn(40))
				has(t, "crashed", f.Crash(keep...), m.crash(keep), 0)
			case 2:
				f = f.Copy()
			case 3:
				keep := ones(r.Int(), r.Intn(40))
				f, m.now = f.Crash(keep...), m.crash(keep)
				m.sync()
			default:
				chance(t, r, f, &m)
			}
			has(t, "step by step", f, m.now, len(m.done))
		}
	}
}

func TestCopy(t *testing.T) {
	f := made(t, 100)
	write(t, f, 60, text(70, 1))
	truncate(t, f, 110)
	now, part := all(f), all(f.Crash(true, false, true))
	g := f.Copy()
	same := func(name string, f *File) {
		t.Helper()
		has(t, name, f, now, 5)
		has(t, name+", nothing kept", f.Crash(), text(100, 0), 0)
		has(t, name+", a part kept", f.Crash(true, false, true), part, 0)
		has(t, name+", all kept", f.Crash(kept(5)...), now, 0)
	}
	same("copy", g)
	write(t, g, 20, text(50, 5))
	same("f, the copy written into", f)
	g = f.Copy()
	write(t, f.Copy(), 0, text(110, 5))
	same("copy, another one written into", g)
	write(t, g, 0, text(300, 2))
	truncate(t, g, 7)
	same("f, the copy changed", f)
	g.Sync()
	same("f, the copy safe", f)
	g = f.Copy()
	write(t, f, 30, text(70, 2))
	same("copy, f written into", g)
	truncate(t, f, 8)
	write(t, f, 0, text(20, 3))
	f.Sync()
	write(t, f, 0, text(20, 4))
	same("copy, f changed", g)
}

// What is pending of a file and of its copy lies in no common room.
func TestCopyGoesItsOwnWay(t *testing.T) {
	for n := range 20 {
		f := made(t, 64)
		for i := range n {
			write(t, f, 0, text(3, i))
		}
		g := f.Copy()
		write(t, f, 0, []byte{0xf})
		write(t, g, 0, []byte{0xa})
		keep := make([]bool, n+1)
		keep[n] = true
		if have := f.Crash(keep...).Read(0, 1)[0]; have != 0xf {
			t.Errorf("behind %d: f has %x", n, have)
		}
		if have := g.Crash(keep...).Read(0, 1)[0]; have != 0xa {
			t.Errorf("behind %d: its copy has %x", n, have)
		}
	}
}

func TestCrashGoesItsOwnWay(t *testing.T) {
	f := made(t, 100)
	write(t, f, 0, text(50, 1))
	now := all(f)
	for _, keep := range [][]bool{nil, {true}} {
		g := f.Crash(keep...)
		write(t, g, 0, text(130, 2))
		g.Sync()
		write(t, g, 0, text(130, 3))
		has(t, "f, what was left of it changed", f, now, 1)
		has(t, "f's crash, what was left of it changed", f.Crash(), text(100, 0), 0)
		has(t, "f's other crash", f.Crash(true), now, 0)
	}
	g, h := f.Crash(true), f.Crash()
	write(t, f, 0, text(100, 4))
	f.Sync()
	write(t, f, 0, text(100, 5))
	has(t, "what was left, f changed", g, now, 0)
	has(t, "what was left, f changed, and crashed", g.Crash(), now, 0)
	has(t, "what was safe, f changed", h, text(100, 0), 0)
}

// What is handed in, with the room behind it, is neither changed nor kept.
func TestGivenStays(t *testing.T) {
	f := made(t, 100)
	for _, at := range []int{0, 30, 64, 90, 200, 500} {
		room := text(300, 6)
		given := room[:130]
		write(t, f, at, given)
		if !bytes.Equal(room, text(300, 6)) {
			t.Errorf("written at %d, it is changed: %x", at, room)
		}
		now := all(f)
		clear(room)
		has(t, "written", f, now, f.Pending())
		has(t, "written and left", f.Crash(kept(f.Pending())...), now, 0)
	}
	keep := append(ones(0b1011, 4), true, true)
	was := slices.Clone(keep)
	g := f.Crash(keep[:4]...)
	left := all(g)
	if !slices.Equal(keep, was) {
		t.Error("what is kept is changed:", keep)
	}
	clear(keep)
	has(t, "left", g, left, 0)
}

// Nil

func TestNil(t *testing.T) {
	var f *File
	f.Sync()
	if f.Len() != 0 || f.Pending() != 0 || f.Copy() != nil || f.Crash() != nil || f.Crash(true) != nil {
		t.Error("a nil file has something")
	}
	for _, at := range []int{math.MinInt, -1, 0, 1, 64, most, most + 1, math.MaxInt} {
		for _, n := range []int{math.MinInt, -1, 0, 1, 64, most, most + 1, math.MaxInt} {
			if b := f.Read(at, n); len(b) != 0 {
				t.Errorf("Read of %d at %d: %x", n, at, b)
			}
		}
		for _, b := range [][]byte{nil, {}, {1}, text(65, 0)} {
			if e := f.Write(at, b); e != api.ErrNil {
				t.Errorf("Write of %d bytes at %d: %d", len(b), at, e)
			}
		}
		if e := f.Truncate(at); e != api.ErrNil {
			t.Errorf("Truncate to %d: %d", at, e)
		}
	}
}

// P6.5

func TestWhatWasSyncedIsLeft(t *testing.T) {
	for seed := range 40 {
		r := rand.New(rand.NewSource(int64(seed)))
		f, m := New(), slow{}
		for range 10 {
			chance(t, r, f, &m)
			has(t, "all kept", f.Crash(kept(f.Pending())...), all(f), 0)
			has(t, "all kept, and more", f.Crash(kept(f.Pending()+3)...), all(f), 0)
		}
		f.Sync()
		for n := range 6 {
			has(t, "synced", f.Crash(ones(r.Int(), n)...), m.now, 0)
		}
	}
}

func TestGrowingByLittle(t *testing.T) {
	f, want := New(), text(most, 1)
	for i := 0; i < most; i += 16 {
		write(t, f, i, want[i:i+16])
	}
	has(t, "grown", f, want, most/8)
	has(t, "left", f.Crash(kept(most/8)...), want, 0)
	f.Sync()
	has(t, "safe", f.Crash(), want, 0)
}
