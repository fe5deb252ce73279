package verify

import (
	"bytes"
	"math"
	"math/rand"
	"slices"
	"strconv"
	"testing"

	"logbook/api"
	"logbook/clip"
	"logbook/crc"
	"logbook/data"
	"logbook/entry"
	"logbook/head"
	"logbook/image"
	"logbook/obj"
	"logbook/scan"
	"logbook/slot"
)

// isLike looks that Check tells what the chapter, done slowly, does, and whether it is right.
func isLike(t *testing.T, b []byte) bool {
	t.Helper()
	want, is := slowCheck(b)
	r, e := Check(crc.Make(), b)
	if r != want && is || !is && r != (Report{}) || is != (e == api.OK) || !is && e != api.ErrBad {
		t.Fatal("Check", r, e, want, is)
	}
	if is {
		isByIndex(t, b)
	}
	return is
}

// isByIndex looks that the index of bytes tells what stands there.
func isByIndex(t *testing.T, b []byte) {
	t.Helper()
	h, _ := head.Decode(crc.Make(), b)
	s, _ := slot.Choose(crc.Make(), b)
	m := image.Load(h, b, api.MaxBytes)
	want, ok := scan.Entries(b, h.Objects(), int(s.Tail))
	if l := entry.All(m); !ok || !slices.EqualFunc(l, want, entry.Same) {
		t.Fatal("entry.All", l, want)
	}
	entries := scan.Places(b, h.Objects(), int(s.Tail), obj.Entry)
	for _, at := range scan.Places(b, h.Objects(), int(s.Tail), obj.Data) {
		o, _ := m.Object(at)
		var own []uint64
		for i, r := range want {
			if slices.Contains(r.Items, string(o.Raw)) {
				own = append(own, uint64(entries[i]))
			}
		}
		if l := slices.Collect(data.Entries(m, at)); !slices.Equal(l, own) {
			t.Fatal("data.Entries", at, l, own)
		}
		if found, ok := data.Find(m, string(o.Raw)); !ok || found != at {
			t.Fatal("data.Find", at, found)
		}
	}
}

// anyThings makes things by chance, in an order in which they may stand.
func anyThings(r *rand.Rand) []*thing {
	var items, l []*thing
	fields := map[string]bool{}
	for _, i := range r.Perm(24)[:1+r.Intn(9)] {
		x := item1(string(rune('A'+i/6)) + "=" + strconv.Itoa(i%6))
		items = append(items, x)
		if f := fieldOf(x.text); !fields[f] {
			fields[f] = true
			l = append(l, field(f))
		}
	}
	slices.SortFunc(items, func(x, y *thing) int { return bytes.Compare([]byte(x.text), []byte(y.text)) })
	has := map[*thing]int{}
	var entries []*thing
	for seq := range 1 + r.Intn(25) {
		e := entryOf(uint64(3*seq + r.Intn(3)))
		for _, x := range items {
			if r.Intn(3) == 0 || seq == 0 {
				e.has, has[x] = append(e.has, x), has[x]+1
			}
		}
		if len(e.has) > 0 {
			entries = append(entries, e)
		}
	}
	return stand(r, append(l, items...), entries, has)
}

// stand has things stand in an order by chance: data ahead of their entries, and entries and the arrays of a list in their order.
func stand(r *rand.Rand, l, entries []*thing, has map[*thing]int) []*thing {
	rows := [][]*thing{entries, arraysOf(nil, len(entries))}
	for _, x := range l {
		row := []*thing{x}
		if x.kind == obj.Data {
			rows = append(rows, arraysOf(x, has[x]-1))
		}
		rows = append(rows, row)
	}
	var done []*thing
	for len(rows) > 0 {
		i := r.Intn(len(rows))
		if len(rows[i]) == 0 {
			rows = slices.Delete(rows, i, i+1)
			continue
		}
		x := rows[i][0]
		if slices.ContainsFunc(x.has, func(d *thing) bool { return !slices.Contains(done, d) }) {
			continue
		}
		done, rows[i] = append(done, x), rows[i][1:]
	}
	return done
}

func arraysOf(list *thing, places int) []*thing {
	var l []*thing
	for size := 4; places > 0; size *= 2 {
		l = append(l, array(list, size))
		places -= size
	}
	return l
}

func anyHead(r *rand.Rand) head.Head {
	return head.Head{ID: r.Uint64(), Key: r.Uint64(), Data: 1 + r.Intn(9), Fields: 1 + r.Intn(4), Made: r.Uint64()}
}

// P19.1, P19.3

// Whatever order the objects stand in.
func TestFilesByChance(t *testing.T) {
	for seed := range int64(500) {
		r := rand.New(rand.NewSource(seed))
		l := anyThings(r)
		b := whole(anyHead(r), l)
		if !isLike(t, b) {
			t.Fatal(seed)
		}
		isLike(t, append(b, make([]byte, r.Intn(100))...))
	}
}

// anyWord tells a number that may be one of a file's words.
func anyWord(r *rand.Rand, m made, places []uint64) uint64 {
	switch r.Intn(8) {
	case 0:
		return 0
	case 1:
		return uint64(r.Intn(len(m.b)+64)) &^ 7
	case 2:
		return m.word(r.Intn(len(m.b)/8) * 8)
	case 3:
		return []uint64{1, 2, 3, 4, math.MaxUint64, 1 << 63, 1 << 32}[r.Intn(7)]
	}
	return places[r.Intn(len(places))]
}

// change changes files by chance, and tells how many of them are right still, and how many aren't.
func change(t *testing.T, seeds int64, by func(r *rand.Rand, m made, l []*thing)) (right, wrong int) {
	t.Helper()
	for seed := range seeds {
		r := rand.New(rand.NewSource(seed))
		l := anyThings(r)
		m := makeFile(anyHead(r), l)
		s := m.slotOf(l)
		for range 50 {
			was := slices.Clone(m.b)
			by(r, m, l)
			if isLike(t, m.with(s)) {
				right++
			} else {
				wrong++
			}
			copy(m.b, was)
		}
	}
	return right, wrong
}

// What is right still is so by the index.
func TestChangedFilesByChance(t *testing.T) {
	right, wrong := change(t, 400, func(r *rand.Rand, m made, l []*thing) {
		var places []uint64
		for _, x := range l {
			places = append(places, uint64(m.at[x]))
		}
		for range 1 + r.Intn(3) {
			if at := 192 + r.Intn((len(m.b)-192)/8)*8; r.Intn(4) == 0 {
				m.b[at+r.Intn(8)] ^= 1 << r.Intn(8)
			} else {
				m.set(at, anyWord(r, m, places))
			}
		}
	})
	if right < 500 || wrong < 10000 {
		t.Error("just", right, wrong)
	}
}

// Words of two objects change places.
func TestSwappedFilesByChance(t *testing.T) {
	right, wrong := change(t, 200, func(r *rand.Rand, m made, l []*thing) {
		was := slices.Clone(m.b)
		x, y := m.at[l[r.Intn(len(l))]], m.at[l[r.Intn(len(l))]]
		n, from := 8*(1+r.Intn(5)), 8*r.Intn(7)
		if x+from+n <= len(was) && y+from+n <= len(was) {
			copy(m.b[x+from:], was[y+from:y+from+n])
			copy(m.b[y+from:], was[x+from:x+from+n])
		}
	})
	if right < 100 || wrong < 1000 {
		t.Error("just", right, wrong)
	}
}

// Whatever the bytes are, it ends, and tells nothing.
func TestAnyBytes(t *testing.T) {
	for seed := range int64(3000) {
		r := rand.New(rand.NewSource(seed))
		b := make([]byte, r.Intn(700))
		if r.Intn(3) > 0 {
			r.Read(b)
		}
		if r.Intn(2) == 0 {
			h := anyHead(r)
			copy(b, h.Encode(crc.Make()))
			s := slot.Slot{Turn: r.Uint64(), Tail: uint64(h.Objects() + 8*r.Intn(10)), State: 1 + uint64(r.Intn(2))}
			if len(b) >= 192 {
				copy(b[s.Place():], s.Encode(crc.Make()))
			}
		}
		isLike(t, b)
		looseIsLike(t, b)
	}
}

// then is a file as it was at image.Done.
type then struct {
	b []byte
	s slot.Slot
	l []api.Record
}

// grown makes a file, entry by entry, and tells it as it was at each time, with a slot.
func grown(t *testing.T, r *rand.Rand, entries int) []then {
	t.Helper()
	h := anyHead(r)
	m := image.New(crc.Make(), h, 1<<20)
	s := slot.Slot{State: slot.Online}
	var l []then
	seq := uint64(r.Intn(3))
	for i := range entries + 1 {
		s.Turn, s.Tail = s.Turn+1, uint64(m.Tail())
		b := m.Bytes()
		if i > 0 {
			was := l[i-1]
			copy(b[was.s.Place():], was.s.Encode(crc.Make()))
		}
		copy(b[s.Place():], s.Encode(crc.Make()))
		l = append(l, then{b, s, entry.All(m)})
		if i == 0 {
			s.First = seq
		}
		x := api.Record{Seq: seq, Real: r.Uint64(), Mono: r.Uint64(), Boot: uint64(r.Intn(3))}
		for range 1 + r.Intn(5) {
			x.Items = append(x.Items, string(rune('A'+r.Intn(6)))+"="+strconv.Itoa(r.Intn(12)))
		}
		if _, e := entry.Add(m, x); e != api.OK {
			t.Fatal(e)
		}
		m.Done()
		s.Count, s.Last = s.Count+1, seq
		seq += 1 + uint64(r.Intn(3))
	}
	return l
}

// isThen looks that a report is that of a file as it was.
func isThen(t *testing.T, r Report, e api.Errno, was then) {
	t.Helper()
	if e != api.OK || r.Entries != len(was.l) || r.First != was.s.First || r.Last != was.s.Last || r.State != was.s.State {
		t.Fatal(r, e, was.s)
	}
	items, fields := map[string]bool{}, map[string]bool{}
	for _, x := range was.l {
		for _, s := range x.Items {
			items[s], fields[fieldOf(s)] = true, true
		}
	}
	if r.Data != len(items) || r.Fields != len(fields) {
		t.Fatal(r, len(items), len(fields))
	}
}

// What entry.Add made is right, at each time.
func TestWhatWasAdded(t *testing.T) {
	for seed := range int64(15) {
		r := rand.New(rand.NewSource(seed))
		for _, was := range grown(t, r, 1+r.Intn(60)) {
			got, e := Check(crc.Make(), was.b)
			isThen(t, got, e, was)
			isLike(t, was.b)
			got, e = Loose(crc.Make(), was.b)
			isThen(t, got, e, was)
		}
	}
}

// A long one, of many items.
func TestWhatWasAddedUpToTheEnd(t *testing.T) {
	r := rand.New(rand.NewSource(1))
	m := image.New(crc.Make(), head.Head{Key: 5, Data: 256, Fields: 256}, 1<<20)
	s := slot.Slot{Turn: 4, First: 1, State: slot.Archived}
	for {
		x := api.Record{Seq: s.Count + 1}
		for range 1 + r.Intn(4) {
			x.Items = append(x.Items, string(rune('A'+r.Intn(26)))+"="+strconv.Itoa(r.Intn(60)))
		}
		if _, e := entry.Add(m, x); e != api.OK {
			break
		}
		m.Done()
		s.Count, s.Last = s.Count+1, x.Seq
	}
	s.Tail = uint64(m.Tail())
	b := m.Bytes()
	copy(b[s.Place():], s.Encode(crc.Make()))
	got, e := Check(crc.Make(), b)
	isThen(t, got, e, then{b, s, entry.All(m)})
	if got.Entries < 2000 || got.State != 2 {
		t.Error(got)
	}
	isByIndex(t, b)
}

// P19.2

// looseIsLike looks that Loose tells what Check does of what clip tells, with the slots.
func looseIsLike(t *testing.T, b []byte) bool {
	t.Helper()
	table := crc.Make()
	h, isHead := head.Decode(table, b)
	s, isSlot := slot.Choose(table, b)
	c, is := []byte(nil), false
	if isHead && isSlot && s.Tail <= uint64(len(b)) {
		c, _, is = clip.Cut(h, b, int(s.Tail))
	}
	want := Report{}
	if is {
		copy(c[64:192], b[64:])
		want, is = slowCheck(c)
	}
	r, e := Loose(table, b)
	if is != (e == api.OK) || is && r != want || !is && (r != (Report{}) || e != api.ErrBad) {
		t.Fatal("Loose", r, e, want, is)
	}
	return is
}

func TestLoose(t *testing.T) {
	_, l := some()
	b := whole(one, l)
	table := crc.Make()
	if r, e := Loose(table, b); e != api.OK || r != found {
		t.Error(r, e)
	}
	m := makeFile(one, nil)
	if r, e := Loose(table, m.with(m.slotOf(nil))); e != api.OK || r != (Report{State: 1}) {
		t.Error(r, e)
	}
	// clip tells an error: no header, no slot, no whole objects up to the tail.
	for _, bad := range [][]byte{nil, {}, make([]byte, 304), b[:len(b)-1], b[:304], b[64:], m.b, makeFile(one, l).b} {
		if r, e := Loose(table, bad); e != api.ErrBad || r != (Report{}) {
			t.Error(r, e)
		}
	}
	// Check tells one: a word that leads to a place ahead of the tail is not cut.
	for at := 304; at < len(b); at += 8 {
		x := slices.Clone(b)
		x[at] ^= 8
		looseIsLike(t, x)
	}
	s := makeFile(one, l).slotOf(l)
	s.Count++
	if r, e := Loose(table, makeFile(one, l).with(s)); e != api.ErrBad || r != (Report{}) {
		t.Error(r, e)
	}
}

// Words that lead behind the tail are none: what says nothing is right then, what is to say something isn't.
func TestLooseOfLaterWords(t *testing.T) {
	_, l := some()
	m := makeFile(one, l)
	s := m.slotOf(l)
	right, wrong := 0, 0
	for _, at := range clip.Words(one, m.b, len(m.b)) {
		for _, n := range []uint64{s.Tail, s.Tail + 8, 1 << 40, math.MaxUint64} {
			was := m.word(at)
			m.set(at, n)
			isBad(t, at, m.with(s))
			if ok := looseIsLike(t, m.with(s)); ok != (was == 0) {
				t.Error(at, n, was, ok)
			} else if ok {
				right++
			} else {
				wrong++
			}
			m.set(at, was)
		}
	}
	if right == 0 || wrong == 0 {
		t.Error(right, wrong)
	}
}

// A file with more entries, of which the slot doesn't tell: of each word that both have either of the two, by chance.
func TestLooseOfMore(t *testing.T) {
	for seed := range int64(40) {
		r := rand.New(rand.NewSource(seed))
		l := grown(t, r, 1+r.Intn(60))
		for range 30 {
			i := r.Intn(len(l))
			was, now := l[i], l[i+r.Intn(len(l)-i)]
			b := slices.Clone(was.b)
			changed := false
			for at := head.Root; at < len(b); at += 8 {
				if r.Intn(2) == 0 && !bytes.Equal(b[at:at+8], now.b[at:at+8]) {
					copy(b[at:at+8], now.b[at:])
					changed = true
				}
			}
			b = append(b, now.b[len(b):]...)
			b = b[:len(was.b)+r.Intn(len(b)-len(was.b)+1)]
			got, e := Loose(crc.Make(), b)
			isThen(t, got, e, was)
			got, e = Check(crc.Make(), b)
			if !changed {
				isThen(t, got, e, was)
			} else if e != api.ErrBad || got != (Report{}) {
				t.Fatal(got, e)
			}
		}
	}
}

func TestLooseByChance(t *testing.T) {
	right, wrong := 0, 0
	for seed := range int64(300) {
		r := rand.New(rand.NewSource(seed))
		l := grown(t, r, 1+r.Intn(12))
		was := l[r.Intn(len(l))]
		for range 30 {
			m := made{b: slices.Clone(was.b)}
			places := []uint64{was.s.Tail, was.s.Tail + 8, was.s.Tail - 8, math.MaxUint64}
			for range 1 + r.Intn(2) {
				m.set(192+r.Intn((len(m.b)-192)/8)*8, anyWord(r, m, places))
			}
			isLike(t, m.b)
			if looseIsLike(t, m.b) {
				right++
			} else {
				wrong++
			}
		}
	}
	if right < 1000 || wrong < 1000 {
		t.Error("just", right, wrong)
	}
}
