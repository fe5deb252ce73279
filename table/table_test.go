package table

import (
	"bytes"
	"iter"
	"math"
	"math/rand"
	"slices"
	"strconv"
	"testing"

	"logbook/api"
	"logbook/crc"
	"logbook/head"
	"logbook/image"
	"logbook/mix"
	"logbook/obj"
)

// place is what an iterator tells: an object, and its place.
type place struct {
	at int
	o  obj.Object
}

func samePlace(a, b place) bool { return a.at == b.at && obj.Same(a.o, b.o) }

// told goes through an iterator.
func told(s iter.Seq2[int, obj.Object]) []place {
	var l []place
	for at, o := range s {
		l = append(l, place{at, o})
	}
	return l
}

// made makes an image with so many buckets in each table.
func made(data, fields int) *image.Image {
	return image.New(crc.Make(), head.Head{ID: 1, Key: 9, Data: data, Fields: fields}, 1<<20)
}

// put puts an object, and tells its place.
func put(t *testing.T, m *image.Image, o obj.Object) int {
	t.Helper()
	at, e := m.Put(o)
	if e != api.OK {
		t.Fatal("Put", o, e)
	}
	return at
}

// add adds bytes, and looks that they are new.
func add(t *testing.T, m *image.Image, kind int, raw string) int {
	t.Helper()
	at, fresh, e := Add(m, kind, []byte(raw))
	if !fresh || e != api.OK || at <= 0 {
		t.Fatal("Add", kind, raw, at, fresh, e)
	}
	return at
}

// data makes an object of data, with words.
func data(words ...uint64) obj.Object {
	return obj.Object{Kind: obj.Data, Words: words, Raw: []byte("A=1")}
}

// more makes an array behind which another one is.
func more(at uint64) obj.Object {
	return obj.Object{Kind: obj.Array, Words: []uint64{at}, Items: []uint64{7}}
}

// are looks that an iterator tells just the objects at these places, once and again.
func are(t *testing.T, what string, m *image.Image, s iter.Seq2[int, obj.Object], want ...int) {
	t.Helper()
	for range 2 {
		var l []int
		for at, o := range s {
			if there, ok := m.Object(at); !ok || !obj.Same(o, there) {
				t.Error(what, at, o, there, ok)
			}
			l = append(l, at)
		}
		if !slices.Equal(l, want) {
			t.Error(what, l, want)
		}
	}
}

// P13.1

func TestSum(t *testing.T) {
	for _, key := range []uint64{0, 1, 9, 1 << 40, math.MaxUint64} {
		m := image.New(crc.Make(), head.Head{ID: 3, Key: key, Data: 1, Fields: 1, Made: 4}, 1<<20)
		for n := range 40 {
			b := bytes.Repeat([]byte{byte(n)}, n)
			if Sum(m, b) != mix.Hash(key, b) {
				t.Error(key, b, Sum(m, b), mix.Hash(key, b))
			}
		}
		if Sum(m, nil) != mix.Hash(key, nil) || Sum(m, []byte("A=1")) == Sum(m, []byte("A=2")) {
			t.Error(key, Sum(m, nil))
		}
	}
}

func TestFollow(t *testing.T) {
	m := made(1, 1)
	// Each array is of 32 bytes, the first one at 272.
	at := []int{272, 304, 336, 368}
	for i, next := range []uint64{304, 368, 0, 0} {
		if k := put(t, m, more(next)); k != at[i] {
			t.Fatal(k, at[i])
		}
	}
	are(t, "from the first on", m, Follow(m, 272, obj.Array, obj.More), 272, 304, 368)
	are(t, "from the second on", m, Follow(m, 304, obj.Array, obj.More), 304, 368)
	are(t, "alone", m, Follow(m, 336, obj.Array, obj.More), 336)
	for _, p := range []uint64{0, 1, 8, 192, 264, 271, 273, 280, 288, 400, 408, 1 << 20, 1<<32 | 272, 1<<63 | 272, math.MaxUint64} {
		are(t, "no object at "+strconv.FormatUint(p, 10), m, Follow(m, p, obj.Array, obj.More))
	}
	for _, kind := range []int{math.MinInt, -1, 0, obj.Data, obj.Field, obj.Entry, 5, 1<<32 | obj.Array, math.MaxInt} {
		are(t, "another kind", m, Follow(m, 272, kind, obj.More))
	}
	for _, word := range []int{math.MinInt, -2, -1, 1, 2, 4, 1 << 32, math.MaxInt} {
		are(t, "no such word", m, Follow(m, 272, obj.Array, word))
	}
}

// What leads on to a place that isn't greater, or where no object of the kind is, leads nowhere.
func TestFollowEnds(t *testing.T) {
	for _, next := range []uint64{0, 8, 192, 256, 271, 272, 304, 305, 312, 320, 368, 376, 400, 408, 1 << 20, 1<<32 | 368, math.MaxUint64} {
		m := made(1, 1)
		put(t, m, more(304))
		put(t, m, more(next))
		put(t, m, obj.Object{Kind: obj.Entry, Words: make([]uint64, 5), Items: []uint64{304}})
		put(t, m, more(272))
		if next == 400 {
			are(t, "an array", m, Follow(m, 272, obj.Array, obj.More), 272, 304, 400)
			continue
		}
		are(t, strconv.FormatUint(next, 10), m, Follow(m, 272, obj.Array, obj.More), 272, 304)
	}
}

func TestFollowByEachWord(t *testing.T) {
	for kind := obj.Data; kind <= obj.Array; kind++ {
		for word := range obj.Words(kind) {
			m := made(1, 1)
			o := obj.Object{Kind: kind, Words: make([]uint64, obj.Words(kind))}
			if kind == obj.Data || kind == obj.Field {
				o.Raw = []byte("A")
			} else {
				o.Items = []uint64{1}
			}
			// The other words lead back to the first.
			for i := range o.Words {
				o.Words[i] = 272
			}
			o.Words[word] = uint64(272 + obj.Size(o))
			put(t, m, o)
			put(t, m, o)
			are(t, "by word "+strconv.Itoa(word), m, Follow(m, 272, kind, word), 272, 272+obj.Size(o))
			are(t, "by a word behind all", m, Follow(m, 272, kind, obj.Words(kind)))
		}
	}
}

// Words by chance, followed by the chapter's words alone.
func TestFollowByChance(t *testing.T) {
	for seed := range int64(2000) {
		r := rand.New(rand.NewSource(seed))
		m := made(1, 1)
		for range 6 {
			words := make([]uint64, 5)
			for i := range words {
				words[i] = uint64(272 + 8*r.Intn(48))
				if r.Intn(3) > 0 {
					words[i] = uint64(272 + 64*r.Intn(8))
				}
			}
			put(t, m, data(words...))
		}
		for word := range 5 {
			for first := range 7 {
				p := uint64(272 + 64*first)
				var want []int
				for ahead := uint64(0); p > ahead; {
					o, ok := m.At(p, obj.Data)
					if !ok {
						break
					}
					want = append(want, int(p))
					ahead, p = p, o.Words[word]
				}
				are(t, "by chance", m, Follow(m, uint64(272+64*first), obj.Data, word), want...)
			}
		}
	}
}

func TestAll(t *testing.T) {
	m := made(3, 2)
	want := map[int]map[uint64][]int{obj.Data: {}, obj.Field: {}}
	for i := range 30 {
		for kind, n := range map[int]uint64{obj.Data: 3, obj.Field: 2} {
			raw := strconv.Itoa(i)
			b := mix.Hash(9, []byte(raw)) % n
			want[kind][b] = append(want[kind][b], add(t, m, kind, raw))
		}
	}
	for kind, n := range map[int]uint64{obj.Data: 3, obj.Field: 2} {
		for b := range n {
			if len(want[kind][b]) < 2 {
				t.Fatal("too few of", kind, b)
			}
			greatest := math.MaxUint64 - math.MaxUint64%n
			for _, sum := range []uint64{b, b + n, b + n<<40, greatest + b - n} {
				are(t, "All", m, All(m, kind, sum), want[kind][b]...)
			}
		}
	}
	for _, kind := range []int{math.MinInt, -1, 0, obj.Entry, obj.Array, 5, 1<<32 | obj.Data, math.MaxInt} {
		for sum := range uint64(6) {
			are(t, "another kind", m, All(m, kind, sum))
		}
	}
}

// An iterator is never nil, may end early, and be gone through again; what it tells may be changed meanwhile.
func TestGoneThrough(t *testing.T) {
	m := made(1, 1)
	for _, s := range []iter.Seq2[int, obj.Object]{
		Follow(m, 0, 0, 0), Follow(nil, 272, obj.Data, obj.Next), Follow(m, 272, obj.Data, -1),
		All(m, obj.Data, 0), All(m, obj.Array, 0), All(nil, obj.Data, 0), All(nil, obj.Field, 0), All(nil, 0, 0),
	} {
		if s == nil {
			t.Fatal("no iterator")
		}
		are(t, "none", m, s)
	}
	var places []int
	for _, raw := range []string{"A", "B", "C", "D"} {
		places = append(places, add(t, m, obj.Data, raw))
	}
	for _, s := range []iter.Seq2[int, obj.Object]{All(m, obj.Data, 5), Follow(m, 272, obj.Data, obj.Next)} {
		for n := range 5 {
			var l []int
			for at, o := range s {
				if len(l) == n {
					break
				}
				l = append(l, at)
				for i := range o.Words {
					o.Words[i] = 272
				}
				o.Raw[0] = 'X'
			}
			if !slices.Equal(l, places[:n]) {
				t.Error(n, l)
			}
		}
		are(t, "again", m, s, places...)
	}
}

// P13.2

func TestAddAndFind(t *testing.T) {
	m := made(2, 1)
	places := map[string]int{}
	for _, raw := range []string{"A=1", "A=2", "B=1", "C=", "\x00", "\x00\x00", "A=1\x00", "\xff"} {
		tail := m.Tail()
		if places[raw] = add(t, m, obj.Data, raw); places[raw] != tail {
			t.Error(raw, places[raw], tail)
		}
		o, ok := m.Object(tail)
		if !ok || o.Kind != obj.Data || string(o.Raw) != raw || !slices.Equal(o.Words, []uint64{Sum(m, []byte(raw)), 0, 0, 0, 0}) {
			t.Error(raw, o, ok)
		}
	}
	for raw, want := range places {
		if at, ok := Find(m, obj.Data, []byte(raw)); !ok || at != want {
			t.Error("Find", raw, at, ok)
		}
		if at, ok := Find(m, obj.Field, []byte(raw)); ok || at != 0 {
			t.Error("Find of a field", raw, at, ok)
		}
		before := m.Bytes()
		if at, fresh, e := Add(m, obj.Data, []byte(raw)); at != want || fresh || e != api.OK || !bytes.Equal(m.Bytes(), before) {
			t.Error("Add again", raw, at, fresh, e)
		}
	}
	for _, raw := range []string{"", "A=", "A=12", "a=1", "A=1\x00\x00", "\x00\x00\x00", "D=1"} {
		if at, ok := Find(m, obj.Data, []byte(raw)); ok || at != 0 {
			t.Error("Find", raw, at, ok)
		}
	}
}

// A field and data of alike bytes are two objects.
func TestAddOfBothKinds(t *testing.T) {
	m := made(1, 1)
	d := add(t, m, obj.Data, "A")
	f := add(t, m, obj.Field, "A")
	if d == f {
		t.Error(d, f)
	}
	o, ok := m.Object(f)
	if !ok || o.Kind != obj.Field || string(o.Raw) != "A" || !slices.Equal(o.Words, []uint64{Sum(m, []byte("A")), 0, 0}) {
		t.Error(o, ok)
	}
	if at, ok := Find(m, obj.Data, []byte("A")); at != d || !ok {
		t.Error(at, ok)
	}
	if at, ok := Find(m, obj.Field, []byte("A")); at != f || !ok {
		t.Error(at, ok)
	}
	if m.Word(256) != uint64(d) || m.Word(264) != uint64(f) {
		t.Error(m.Word(256), m.Word(264))
	}
}

// A new object is the last one of its bucket.
func TestAddLinks(t *testing.T) {
	for _, kind := range []int{obj.Data, obj.Field} {
		m := made(1, 1)
		link := 256 + 8*(kind-obj.Data)
		for i := range 10 {
			if m.Word(link) != 0 {
				t.Fatal(kind, i, m.Word(link))
			}
			at := add(t, m, kind, strconv.Itoa(i))
			if m.Word(link) != uint64(at) {
				t.Fatal(kind, i, m.Word(link), at)
			}
			link = at + 24
		}
	}
}

func TestWrongKinds(t *testing.T) {
	m := made(1, 1)
	add(t, m, obj.Data, "A")
	add(t, m, obj.Field, "A")
	before := m.Bytes()
	for _, kind := range []int{math.MinInt, -1, 0, obj.Entry, obj.Array, 5, 1<<32 | obj.Data, 1<<32 | obj.Field, math.MaxInt} {
		for _, raw := range [][]byte{nil, []byte("A"), []byte("B"), make([]byte, 2000)} {
			// A nil image, too: the kind is held against first.
			for _, m := range []*image.Image{m, nil} {
				if at, fresh, e := Add(m, kind, raw); at != 0 || fresh || e != api.ErrArg {
					t.Error("Add", kind, at, fresh, e)
				}
				if at, ok := Find(m, kind, raw); at != 0 || ok {
					t.Error("Find", kind, at, ok)
				}
			}
		}
	}
	if !bytes.Equal(m.Bytes(), before) {
		t.Error("changed")
	}
}

func TestAddOfWrongBytes(t *testing.T) {
	m := made(1, 1)
	before := m.Bytes()
	for kind, most := range map[int]int{obj.Data: 1024, obj.Field: 64} {
		for _, n := range []int{0, most + 1, most + 8, 5000} {
			if at, fresh, e := Add(m, kind, make([]byte, n)); at != 0 || fresh || e != api.ErrArg || !bytes.Equal(m.Bytes(), before) {
				t.Error(kind, n, at, fresh, e)
			}
		}
	}
	for kind, most := range map[int]int{obj.Data: 1024, obj.Field: 64} {
		for _, n := range []int{1, most - 1, most} {
			raw := make([]byte, n)
			at, fresh, e := Add(m, kind, raw)
			if !fresh || e != api.OK {
				t.Error(kind, n, at, fresh, e)
			}
			if k, ok := Find(m, kind, raw); k != at || !ok {
				t.Error(kind, n, k, ok)
			}
		}
	}
}

// What there is no room for isn't there, and what is there is found where there is no room.
func TestAddWithoutRoom(t *testing.T) {
	h := head.Head{Data: 1, Fields: 1}
	for limit := 272; limit <= 272+64+64+48; limit++ {
		m := image.New(crc.Make(), h, limit)
		tail := 272
		for _, x := range []struct {
			kind, size int
			raw        string
		}{{obj.Data, 64, "A=1"}, {obj.Data, 64, "A=2"}, {obj.Field, 48, "A"}} {
			before := m.Bytes()
			at, fresh, e := Add(m, x.kind, []byte(x.raw))
			if tail+x.size <= limit {
				if at != tail || !fresh || e != api.OK {
					t.Error(limit, x, at, fresh, e)
				}
				tail += x.size
				at, fresh, e = Add(m, x.kind, []byte(x.raw))
				if at != tail-x.size || fresh || e != api.OK {
					t.Error(limit, x, "again", at, fresh, e)
				}
				continue
			}
			if at != 0 || fresh || e != api.ErrFile || !bytes.Equal(m.Bytes(), before) {
				t.Error(limit, x, at, fresh, e)
			}
			if k, ok := Find(m, x.kind, []byte(x.raw)); k != 0 || ok {
				t.Error(limit, x, k, ok)
			}
		}
	}
}

func TestNil(t *testing.T) {
	if Sum(nil, []byte("A")) != mix.Hash(0, []byte("A")) {
		t.Error(Sum(nil, []byte("A")))
	}
	for _, kind := range []int{obj.Data, obj.Field} {
		for _, raw := range [][]byte{nil, []byte("A"), make([]byte, 2000)} {
			if at, fresh, e := Add(nil, kind, raw); at != 0 || fresh || e != api.ErrNil {
				t.Error("Add", kind, at, fresh, e)
			}
			if at, ok := Find(nil, kind, raw); at != 0 || ok {
				t.Error("Find", kind, at, ok)
			}
		}
	}
}

// What is handed in is neither changed nor kept.
func TestMemory(t *testing.T) {
	m := made(1, 1)
	room := []byte("A=1 room")
	raw := room[:3]
	at, _, _ := Add(m, obj.Data, raw)
	Find(m, obj.Data, raw)
	Sum(m, raw)
	if string(room) != "A=1 room" {
		t.Error(string(room))
	}
	copy(raw, "B=2")
	if k, ok := Find(m, obj.Data, []byte("A=1")); k != at || !ok {
		t.Error(k, ok)
	}
	if k, ok := Find(m, obj.Data, []byte("B=2")); ok {
		t.Error(k, ok)
	}
}

// P13.3

// What was added is found, in images that were loaded or copied as well, and what was taken back is not.
func TestFoundWhateverWasAddedSince(t *testing.T) {
	for _, n := range []int{1, 2, 7, 256} {
		m := made(n, 257-n)
		l := map[string][2]int{}
		for i := range 300 {
			raw := "A" + strconv.Itoa(i*i)
			l[raw] = [2]int{add(t, m, obj.Data, raw), add(t, m, obj.Field, raw)}
		}
		m.Done()
		was := m.Bytes()
		for i := range 50 {
			add(t, m, obj.Data, "B"+strconv.Itoa(i))
			add(t, m, obj.Field, "B"+strconv.Itoa(i))
		}
		back := m.Copy()
		m.Back()
		if !bytes.Equal(m.Bytes(), was) {
			t.Fatal("taken back")
		}
		for _, m := range []*image.Image{m, image.Load(m.Head(), was, 1<<20), back} {
			for raw, at := range l {
				d, ok := Find(m, obj.Data, []byte(raw))
				f, too := Find(m, obj.Field, []byte(raw))
				if !ok || !too || at != [2]int{d, f} {
					t.Fatal(n, raw, at, d, f, ok, too)
				}
			}
			if at, ok := Find(m, obj.Data, []byte("B7")); ok != (m == back) || ok != (at > 0) {
				t.Fatal(n, at, ok)
			}
		}
	}
}

// The example of the document.
func TestExample(t *testing.T) {
	m := made(4, 2)
	at := add(t, m, obj.Data, "A=1")
	add(t, m, obj.Data, "B=2")
	if k, fresh, e := Add(m, obj.Data, []byte("A=1")); k != at || fresh || e != api.OK {
		t.Error(k, fresh, e)
	}
}
