package scan

import (
	"bytes"
	"encoding/binary"
	"math"
	"slices"
	"strings"
	"testing"

	"logbook/api"
	"logbook/obj"
)

// some are objects of every kind, as they stand behind 16 bytes: at 16, 80, 128, 192, 264 and 320.
func some() ([]byte, []found) {
	b := bytes.Repeat([]byte{255}, 16)
	var l []found
	for _, o := range []obj.Object{
		{Kind: obj.Data, Words: []uint64{1, 2, 3, 4, 5}, Raw: []byte("A=1")},
		{Kind: obj.Field, Words: []uint64{6, 7, 8}, Raw: []byte("A")},
		{Kind: obj.Data, Words: []uint64{9, 10, 11, 12, 13}, Raw: []byte("B=234567")},
		{Kind: obj.Entry, Words: []uint64{14, 15, 16, 17, 18}, Items: []uint64{16, 128}},
		{Kind: obj.Array, Words: []uint64{19}, Items: []uint64{192, 0, 0, 0}},
		{Kind: obj.Entry, Words: []uint64{20, 21, 22, 23, math.MaxUint64}, Items: []uint64{128}},
	} {
		x := found{at: len(b), o: o}
		b = append(b, obj.Encode(o)...)
		x.end = len(b)
		l = append(l, x)
	}
	return b, l
}

// put puts an object behind bytes, and tells its place.
func put(b []byte, o obj.Object) ([]byte, int) { return append(b, obj.Encode(o)...), len(b) }

// data makes a data object of a text.
func data(s string) obj.Object {
	return obj.Object{Kind: obj.Data, Words: make([]uint64, 5), Raw: []byte(s)}
}

// of makes an entry of places.
func of(places ...uint64) obj.Object {
	return obj.Object{Kind: obj.Entry, Words: []uint64{1, 2, 3, 4, 5}, Items: places}
}

// far are places that no bytes have.
var far = []int{math.MinInt, math.MinInt + 8, math.MinInt + 16, -1 << 32, -1<<32 | 16, -16, -8, -7, -1, 1 << 20, 1 << 32, 1<<32 | 16, 1 << 62, math.MaxInt - 15, math.MaxInt - 7, math.MaxInt}

// P17.1

func TestAll(t *testing.T) {
	b, l := some()
	if len(l) != 6 || l[3].at != 192 || l[5].end != 384 || len(b) != 384 {
		t.Fatal(l, len(b))
	}
	isAll(t, b, 16, len(b), l)
	isAll(t, nil, 0, 0, nil)
	isAll(t, nil, 0, 100, nil)
	isAll(t, []byte{}, 0, 0, nil)
	isAll(t, make([]byte, 100), 0, 100, nil)
	// No object stands at these.
	isAll(t, b, 0, len(b), nil)
	isAll(t, b, 8, len(b), nil)
}

// All of them from each one's place on; from other places just what stands there.
func TestAllFromEachPlace(t *testing.T) {
	b, l := some()
	for from := range b {
		for len(l) > 0 && l[0].at < from {
			l = l[1:]
		}
		if len(l) > 0 && l[0].at == from {
			isAll(t, b, from, len(b), l)
			isAll(t, b, from, math.MaxInt, l)
			continue
		}
		isAll(t, b, from, len(b), nil)
	}
	for _, from := range append(far, len(b), len(b)+8) {
		for _, to := range append(far, 0, 16, len(b)) {
			isAll(t, b, from, to, nil)
		}
	}
}

// An object ends at to at most, though all of it is there.
func TestAllUpToEachPlace(t *testing.T) {
	b, l := some()
	for to := range len(b) + 100 {
		n := 0
		for n < len(l) && l[n].end <= to {
			n++
		}
		isAll(t, b, 16, to, l[:n])
	}
	for _, to := range far {
		if to < 0 {
			isAll(t, b, 16, to, nil)
		} else {
			isAll(t, b, 16, to, l)
		}
	}
	// Of fewer bytes, those that are whole there; the bytes behind them are none, though there is room.
	for n := range len(b) {
		k := 0
		for k < len(l) && l[k].end <= n {
			k++
		}
		isAll(t, b[:n], 16, len(b), l[:k])
	}
}

// Behind a place where none stands there are no more.
func TestAllUpToNone(t *testing.T) {
	for i, x := range []func(b []byte, at int){
		func(b []byte, at int) { b[at] = 0 },
		func(b []byte, at int) { b[at] = 5 },
		func(b []byte, at int) { b[at+7] = 1 },
		func(b []byte, at int) { binary.LittleEndian.PutUint64(b[at+8:], 0) },
		func(b []byte, at int) { binary.LittleEndian.PutUint64(b[at+8:], 8) },
		func(b []byte, at int) { binary.LittleEndian.PutUint64(b[at+8:], math.MaxUint64) },
		func(b []byte, at int) { binary.LittleEndian.PutUint64(b[at+8:], 1<<20) },
	} {
		_, l := some()
		for n, bad := range l {
			b, _ := some()
			x(b, bad.at)
			isAll(t, b, 16, len(b), l[:n])
			if Whole(b, 16, len(b)) || !Whole(b, 16, bad.at) {
				t.Error(i, n)
			}
		}
	}
	// What fills it up isn't noughts.
	b, l := some()
	b[l[2].at-1] = 1
	isAll(t, b, 16, len(b), l[:1])
}

func TestAllAgain(t *testing.T) {
	b, l := some()
	all := All(b, 16, len(b))
	for n := range l {
		i := 0
		for at, o := range all {
			if at != l[i].at || !obj.Same(o, l[i].o) {
				t.Fatal(i, at, o)
			}
			if i++; i > n {
				break
			}
		}
		if i != n+1 {
			t.Error(i, n)
		}
	}
	// One is gone through while it is.
	for range all {
		n := 0
		for range all {
			n++
		}
		if n != len(l) {
			t.Error(n)
		}
	}
	for _, all := range []func(func(int, obj.Object) bool){All(nil, 0, 0), All(b, -8, 5), All(b, 16, 0)} {
		if all == nil {
			t.Fatal("no iterator")
		}
		all(func(int, obj.Object) bool { t.Error("there is none"); return true })
	}
}

// What is told is of its own, what is handed in stays as it is, and what becomes of it later is none of All's.
func TestAllKeepsNothing(t *testing.T) {
	b, l := some()
	before := slices.Clone(b)
	all := All(b, 16, len(b))
	for range 2 {
		i := 0
		for at, o := range all {
			if at != l[i].at || !obj.Same(o, l[i].o) {
				t.Fatal(i, at, o)
			}
			for j := range o.Words {
				o.Words[j]++
			}
			for j := range o.Items {
				o.Items[j]++
			}
			for j := range o.Raw {
				o.Raw[j]++
			}
			i++
		}
		if i != len(l) || !bytes.Equal(b, before) {
			t.Fatal("changed", i)
		}
	}
	for i := range b {
		b[i] = 7
	}
	n := 0
	for at, o := range all {
		if at != l[n].at || !obj.Same(o, l[n].o) {
			t.Fatal(n, at, o)
		}
		n++
	}
	if n != len(l) {
		t.Error(n)
	}
}

func TestWhole(t *testing.T) {
	b, l := some()
	ends := []int{16}
	for _, x := range l {
		ends = append(ends, x.end)
	}
	for from := range len(b) + 20 {
		for to := range len(b) + 20 {
			want := to <= len(b) && (from == to || from < to && slices.Contains(ends, from) && slices.Contains(ends, to))
			if Whole(b, from, to) != want {
				t.Fatal(from, to, !want)
			}
		}
	}
	if !Whole(nil, 0, 0) || Whole(nil, 0, 1) || Whole(nil, 1, 1) || !Whole([]byte{1, 2}, 1, 1) || !Whole([]byte{1, 2}, 2, 2) || Whole([]byte{1, 2}, 2, 1) {
		t.Error("of no objects")
	}
	for _, x := range far {
		for _, y := range append(far, 0, 16, 80, len(b)) {
			if Whole(b, x, y) || Whole(b, y, x) || Whole(b, x, x) {
				t.Error(x, y)
			}
		}
	}
}

// Bytes behind those that there are, are none.
func TestWholeOfFewer(t *testing.T) {
	b, _ := some()
	for n := range len(b) {
		if Whole(b[:n], 16, len(b)) || Whole(b[:n], 16, n) != (n == 16 || n == 80 || n == 128 || n == 192 || n == 264 || n == 320) {
			t.Error(n)
		}
	}
}

func TestPlaces(t *testing.T) {
	b, _ := some()
	for _, c := range []struct {
		from, to, kind int
		want           []int
	}{
		{16, 384, obj.Data, []int{16, 128}}, {16, 384, obj.Field, []int{80}},
		{16, 384, obj.Entry, []int{192, 320}}, {16, 384, obj.Array, []int{264}},
		{16, 383, obj.Entry, []int{192}}, {16, 192, obj.Entry, nil}, {16, 264, obj.Entry, []int{192}},
		{80, 1 << 40, obj.Data, []int{128}}, {128, 384, obj.Field, nil}, {80, 100, obj.Field, nil},
		{8, 384, obj.Data, nil}, {-8, 384, obj.Data, nil}, {384, 384, obj.Data, nil}, {128, 16, obj.Data, nil},
		{16, 384, 0, nil}, {16, 384, -1, nil}, {16, 384, 5, nil}, {16, 384, 1<<32 | 1, nil}, {16, 384, math.MinInt, nil}, {16, 384, 257, nil},
	} {
		if l := Places(b, c.from, c.to, c.kind); !slices.Equal(l, c.want) {
			t.Error(c, l)
		}
	}
}

// P17.2

func TestItems(t *testing.T) {
	b := make([]byte, 8)
	b, one := put(b, data("A=1"))
	b, two := put(b, data("not an item"))
	b, field := put(b, obj.Object{Kind: obj.Field, Words: make([]uint64, 3), Raw: []byte("A")})
	b, three := put(b, data(strings.Repeat("\x00\xff=", 341)+"x"))
	b, end := put(b, of(uint64(one)))
	b, behind := put(b, data("B=2"))
	long := strings.Repeat("\x00\xff=", 341) + "x"
	for _, c := range []struct {
		from, at int
		places   []int
		want     []string
		ok       bool
	}{
		{8, end, []int{one, two, three}, []string{"A=1", "not an item", long}, true},
		{8, end, []int{three, one, three, one}, []string{long, "A=1", long, "A=1"}, true},
		{8, end, nil, nil, true},
		{-8, -8, nil, nil, true},
		{100, 0, nil, nil, true},
		// From, and at.
		{one, end, []int{one}, []string{"A=1"}, true},
		{one + 1, end, []int{one}, nil, false},
		{one + 1, end, []int{two}, []string{"not an item"}, true},
		{two, end, []int{two, one}, nil, false},
		{0, one + 1, []int{one}, []string{"A=1"}, true},
		{0, one, []int{one}, nil, false},
		{0, two + 1, []int{one, two}, []string{"A=1", "not an item"}, true},
		{0, two, []int{one, two}, nil, false},
		{0, behind, []int{behind}, nil, false},
		{0, behind + 1, []int{behind}, []string{"B=2"}, true},
		{math.MinInt, math.MaxInt, []int{behind, one}, []string{"B=2", "A=1"}, true},
		{-1, end, []int{one}, []string{"A=1"}, true},
		{-8, -1, []int{one}, nil, false},
		{math.MinInt, math.MinInt, []int{0}, nil, false},
		{math.MaxInt, math.MaxInt, []int{one}, nil, false},
		{8, 0, []int{one}, nil, false},
		// There is no data.
		{8, math.MaxInt, []int{field}, nil, false},
		{8, math.MaxInt, []int{one, field}, nil, false},
		{8, math.MaxInt, []int{end}, nil, false},
		{8, math.MaxInt, []int{one + 8}, nil, false},
		{8, math.MaxInt, []int{one, one + 1}, nil, false},
		{0, math.MaxInt, []int{0}, nil, false},
		{8, math.MaxInt, []int{len(b)}, nil, false},
		{8, math.MaxInt, []int{len(b) + 8}, nil, false},
		{8, math.MaxInt, []int{1 << 32}, nil, false},
		{8, math.MaxInt, []int{1<<32 | one}, nil, false},
		{8, math.MaxInt, []int{math.MaxInt - 7}, nil, false},
		{math.MinInt, math.MaxInt, []int{-1}, nil, false},
		{math.MinInt, math.MaxInt, []int{one, -8}, nil, false},
		{math.MinInt, math.MaxInt, []int{math.MinInt}, nil, false},
		{math.MinInt, math.MaxInt, []int{math.MinInt | one}, nil, false},
	} {
		var o obj.Object
		for _, x := range c.places {
			o.Items = append(o.Items, uint64(x))
		}
		before, given := slices.Clone(b), slices.Clone(o.Items)
		// It's the Items of whatever object.
		for _, o.Kind = range []int{obj.Entry, obj.Array, obj.Data, 0, -7} {
			l, ok := Items(b, c.from, c.at, o)
			if ok != c.ok || !slices.Equal(l, c.want) {
				t.Error(c.from, c.at, c.places, l, ok)
			}
		}
		if !bytes.Equal(b, before) || !slices.Equal(o.Items, given) {
			t.Fatal("what was handed in", c)
		}
	}
	if l, ok := Items(nil, 0, 100, of(8)); ok || len(l) != 0 {
		t.Error(l, ok)
	}
	if l, ok := Items(b[:len(b)-1], 0, len(b), of(uint64(behind))); ok || len(l) != 0 {
		t.Error(l, ok)
	}
}

// The bytes of what stands at a place, whether it's one of those that All tells, and whether it ends ahead of the entry or not.
func TestItemsAsTheyStand(t *testing.T) {
	in := obj.Encode(data("X=1"))
	b, at := put(nil, data("A=xxxxxx"+string(in)))
	b, end := put(b, of(uint64(at+64)))
	if l, ok := Items(b, 0, end, of(uint64(at+64))); !ok || !slices.Equal(l, []string{"X=1"}) {
		t.Error(l, ok)
	}
	if l, ok := Items(b, at+64, at+65, of(uint64(at+64))); !ok || !slices.Equal(l, []string{"X=1"}) {
		t.Error(l, ok)
	}
	if l, ok := Entries(b, 0, len(b)); !ok || len(l) != 1 || !slices.Equal(l[0].Items, []string{"X=1"}) {
		t.Error(l, ok)
	}
}

// What stands at a place may reach over the entry, and over to.
func TestItemsThatReachFar(t *testing.T) {
	behind := []byte("behind..")
	reach := string(obj.Encode(of(64))) + string(behind)
	in := obj.Encode(data(reach))
	b, _ := put(nil, data("A=xxxxxx"+string(in[:56])))
	b, at := put(b, of(64))
	to := len(b)
	b = append(b, behind...)
	for _, x := range []int{to, to + 1, to + 8} {
		l, ok := Entries(b, 0, x)
		if !ok || len(l) != 1 || !slices.Equal(l[0].Items, []string{reach}) {
			t.Error(at, x, l, ok)
		}
	}
	if l, ok := Entries(b[:to+7], 0, to); ok || len(l) != 0 {
		t.Error(l, ok)
	}
}

func TestEntries(t *testing.T) {
	b, _ := some()
	first := api.Record{Seq: 14, Real: 15, Mono: 16, Boot: 17, Items: []string{"A=1", "B=234567"}}
	second := api.Record{Seq: 20, Real: 21, Mono: 22, Boot: 23, Items: []string{"B=234567"}}
	for _, c := range []struct {
		from, to int
		want     []api.Record
		ok       bool
	}{
		{16, 384, []api.Record{first, second}, true},
		{16, math.MaxInt, []api.Record{first, second}, true},
		{16, 383, []api.Record{first}, true},
		{16, 320, []api.Record{first}, true},
		{16, 264, []api.Record{first}, true},
		{16, 263, nil, true},
		{16, 192, nil, true},
		// The item of the first one stands ahead of 80.
		{80, 384, nil, false},
		{80, 264, nil, false},
		{80, 263, nil, true},
		{128, 384, nil, false},
		{192, 384, nil, false},
		// The other one's does so ahead of 264.
		{264, 384, nil, false},
		{264, 320, nil, true},
		{320, 384, nil, false},
		{384, 384, nil, true},
		{8, 384, nil, true},
		{-8, 384, nil, true},
		{384, 16, nil, true},
		{16, math.MinInt, nil, true},
		{math.MinInt, math.MaxInt, nil, true},
		{math.MaxInt, math.MaxInt, nil, true},
	} {
		l, ok := Entries(b, c.from, c.to)
		if ok != c.ok || !slices.EqualFunc(l, c.want, alike) {
			t.Error(c.from, c.to, l, ok)
		}
	}
	if l, ok := Entries(nil, 0, 0); !ok || len(l) != 0 {
		t.Error(l, ok)
	}
}

// One that can't be read is enough, wherever it is; behind a place where none stands it is not looked for.
func TestEntriesThatCannotBeRead(t *testing.T) {
	for i, bad := range []uint64{0, 7, 16 + 8, 80, 192, 264, 320, 384, 448, 1 << 32, 1<<32 | 16, math.MaxUint64, 1<<63 | 16} {
		b, _ := some()
		b, _ = put(b, of(16, bad))
		b, end := put(b, of(16))
		if l, ok := Entries(b, 16, len(b)); ok || len(l) != 0 {
			t.Error(i, bad, l, ok)
		}
		if l, ok := Entries(b, 16, end); ok || len(l) != 0 {
			t.Error(i, bad, l, ok)
		}
		if l, ok := Entries(b, 16, end-1); !ok || len(l) != 2 {
			t.Error(i, bad, l, ok)
		}
		b[384] = 0
		if l, ok := Entries(b, 16, len(b)); !ok || len(l) != 2 {
			t.Error(i, bad, l, ok)
		}
	}
}

// An entry's own place is not ahead of it, nor is one behind it.
func TestEntriesOfItemsBehind(t *testing.T) {
	b, at := put(nil, of(64))
	b, _ = put(b, data("A=1"))
	if l, ok := Entries(b, at, len(b)); ok || len(l) != 0 {
		t.Error(l, ok)
	}
	b, _ = put(b, of(64, 64))
	if l, ok := Entries(b, 64, len(b)); !ok || len(l) != 1 || !slices.Equal(l[0].Items, []string{"A=1", "A=1"}) {
		t.Error(l, ok)
	}
}

// What is told is of its own, and what is handed in stays.
func TestEntriesKeepNothing(t *testing.T) {
	b, _ := some()
	before := slices.Clone(b)
	l, _ := Entries(b, 16, len(b))
	for i := range b {
		b[i] = 7
	}
	b = before
	again, ok := Entries(b, 16, len(b))
	if !ok || !slices.EqualFunc(l, again, alike) {
		t.Error(l, again)
	}
	l[0].Items[0], l[0].Items[1] = "X", "Y"
	if third, _ := Entries(b, 16, len(b)); !slices.EqualFunc(third, again, alike) || third[0].Items[0] != "A=1" {
		t.Error(third)
	}
}
