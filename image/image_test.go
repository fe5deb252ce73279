package image

import (
	"bytes"
	"encoding/binary"
	"hash/crc32"
	"math"
	"slices"
	"testing"

	"logbook/api"
	"logbook/crc"
	"logbook/head"
	"logbook/obj"
)

// one is a header as a file has them; its objects begin at 304.
var one = head.Head{ID: 7, Key: 8, Data: 4, Fields: 2, Made: 9}

// noBuckets are numbers of buckets that no table may have.
var noBuckets = []int{math.MinInt, -256, -1, 0, 257, 512, 1 << 32, 1<<32 | 1, math.MaxInt}

// empty tells the bytes of a file without objects, by the documents' words alone.
func empty(h head.Head) []byte {
	b := []byte("LOGBOOK1")
	for _, n := range []uint64{h.ID, h.Key, uint64(h.Data), uint64(h.Fields), h.Made} {
		b = binary.LittleEndian.AppendUint64(b, n)
	}
	b = binary.LittleEndian.AppendUint32(b, crc32.ChecksumIEEE(b))
	return append(b, make([]byte, 256+8*h.Data+8*h.Fields-len(b))...)
}

// made tells a new image of one, with these objects.
func made(t *testing.T, limit int, l ...obj.Object) *Image {
	t.Helper()
	m := New(crc.Make(), one, limit)
	for _, o := range l {
		put(t, m, o)
	}
	return m
}

// put puts an object, and looks that it is told where the others ended.
func put(t *testing.T, m *Image, o obj.Object) int {
	t.Helper()
	tail := m.Tail()
	at, e := m.Put(o)
	if at != tail || e != api.OK || m.Tail() != tail+obj.Size(o) {
		t.Fatal("Put", at, e, tail, m.Tail())
	}
	return at
}

// set sets a word.
func set(t *testing.T, m *Image, at int, n uint64) {
	t.Helper()
	if e := m.Set(at, n); e != api.OK || m.Word(at) != n {
		t.Fatal("Set", at, n, e, m.Word(at))
	}
}

func array(l ...uint64) obj.Object {
	return obj.Object{Kind: obj.Array, Words: make([]uint64, 1), Items: l}
}

// objects are one of each kind: of 64, 48, 72 and 40 bytes.
func objects() []obj.Object {
	return []obj.Object{
		{Kind: obj.Data, Words: []uint64{1, 2, 3, 4, 5}, Raw: []byte("A=1")},
		{Kind: obj.Field, Words: []uint64{6, 7, 8}, Raw: []byte("FIELD")},
		{Kind: obj.Entry, Words: []uint64{1, 2, 3, 4, math.MaxUint64}, Items: []uint64{304, 400}},
		array(0, 0),
	}
}

// wrong are objects that may not be.
func wrong() []obj.Object {
	l := []obj.Object{{}, array(), {Kind: 5}, {Kind: -1, Words: make([]uint64, 5), Raw: []byte("A=1")}}
	for _, o := range objects() {
		short, long, both := o, o, o
		short.Words = o.Words[1:]
		long.Words = append([]uint64{1}, o.Words...)
		both.Raw, both.Items = []byte("A=1"), []uint64{1}
		l = append(l, short, long, both)
	}
	return append(l, array(make([]uint64, 1025)...), obj.Object{Kind: obj.Data, Words: make([]uint64, 5), Raw: make([]byte, 1025)})
}

// isUnchanged looks that nothing was changed.
func isUnchanged(t *testing.T, what string, m *Image) {
	t.Helper()
	if c := m.Change(); c.At != m.Tail() || len(c.Fresh) != 0 || len(c.Words) != 0 {
		t.Error(what, m.Tail(), c)
	}
}

// P12.1

func TestNew(t *testing.T) {
	table := crc.Make()
	for data := 1; data <= 256; data += 15 {
		for fields := 1; fields <= 256; fields += 17 {
			h := head.Head{ID: uint64(data), Key: math.MaxUint64, Data: data, Fields: fields, Made: 1 << 40}
			m := New(table, h, 1<<20)
			if m.Head() != h || m.Tail() != 256+8*data+8*fields || m.Tail() != h.Objects() || !bytes.Equal(m.Bytes(), empty(h)) {
				t.Fatal(h, m.Head(), m.Tail(), m.Bytes())
			}
			isUnchanged(t, "new", m)
		}
	}
}

// The limit is held against what is put, not against what is there at first.
func TestNewOfAnyLimit(t *testing.T) {
	for _, limit := range []int{math.MinInt, -1, 0, 1, 64, 303, 304, 1 << 20, 1<<20 + 1, math.MaxInt} {
		for _, m := range []*Image{New(crc.Make(), one, limit), Load(one, empty(one), limit)} {
			if m == nil || m.Head() != one || !bytes.Equal(m.Bytes(), empty(one)) {
				t.Error(limit, m.Bytes())
			}
		}
	}
}

func TestNoneOfAWrongHeader(t *testing.T) {
	table := crc.Make()
	b := make([]byte, 10000)
	for _, n := range noBuckets {
		for _, h := range []head.Head{{}, {Data: n, Fields: 1}, {Data: 1, Fields: n}, {Data: n, Fields: n}, {ID: 7, Key: 8, Data: n, Fields: 256, Made: 9}, {ID: 7, Key: 8, Data: 256, Fields: n, Made: 9}} {
			if New(table, h, 1<<20) != nil || Load(h, b, 1<<20) != nil || Load(h, nil, 1<<20) != nil {
				t.Error("an image of", h)
			}
		}
	}
}

func TestLoad(t *testing.T) {
	b := slices.Concat(empty(one), obj.Encode(array(1, 2)), []byte{1, 2, 3})
	b[200] = 5
	for n := range len(b) + 1 {
		m := Load(one, b[:n], 1<<20)
		if n < 304 {
			if m != nil {
				t.Error("an image of", n, "bytes")
			}
			continue
		}
		if m.Head() != one || m.Tail() != n || !bytes.Equal(m.Bytes(), b[:n]) {
			t.Error(n, m.Head(), m.Tail(), m.Bytes())
		}
		isUnchanged(t, "loaded", m)
	}
	if Load(one, nil, 1<<20) != nil {
		t.Error("an image of nothing")
	}
}

// The header is the one that was handed in, whatever the bytes begin with.
func TestLoadOfAnyBytes(t *testing.T) {
	for _, x := range []byte{0, 1, 255} {
		b := bytes.Repeat([]byte{x}, 1<<20+100)
		m := Load(one, b, 10)
		if m.Head() != one || m.Tail() != 1<<20+100 || !bytes.Equal(m.Bytes(), b) {
			t.Error(x, m.Head(), m.Tail())
		}
	}
}

func TestCopy(t *testing.T) {
	m := made(t, 500, array(1, 0))
	m.Done()
	set(t, m, 304+32, 5)
	put(t, m, array(3))
	c := m.Copy()
	if c.Head() != one || c.Tail() != 376 || !bytes.Equal(c.Bytes(), m.Bytes()) {
		t.Error(c.Head(), c.Tail(), c.Bytes())
	}
	isUnchanged(t, "a copy", c)
	// What was changed in the one is no change of the other, and stays.
	c.Back()
	if c.Tail() != 376 || c.Word(304+32) != 5 {
		t.Error(c.Tail(), c.Word(304+32))
	}
	m.Back()
	if m.Tail() != 344 || m.Word(304+32) != 0 || c.Tail() != 376 || c.Word(304+32) != 5 {
		t.Error(m.Tail(), m.Word(304+32), c.Tail(), c.Word(304+32))
	}
	// It has the limit, too: 500 are not enough for 376 and 128.
	if at, e := c.Put(array(make([]uint64, 13)...)); at != 0 || e != api.ErrFile {
		t.Error(at, e)
	}
	put(t, c, array(make([]uint64, 12)...))
	if m.Tail() != 344 {
		t.Error("the copy's objects are put to the first one")
	}
}

// P12.2

func TestWord(t *testing.T) {
	b := slices.Concat(empty(one), []byte{1, 2, 3, 4, 5, 6, 7, 8, 9, 10})
	m := Load(one, b, 1<<20)
	for at := -100; at < len(b)+100; at++ {
		want := uint64(0)
		if at >= 0 && at <= len(b)-8 {
			want = binary.LittleEndian.Uint64(b[at:])
		}
		if n := m.Word(at); n != want {
			t.Errorf("Word at %d: %x, not %x", at, n, want)
		}
	}
	for _, at := range []int{math.MinInt, math.MinInt + 8, -8, math.MaxInt - 7, math.MaxInt} {
		if n := m.Word(at); n != 0 {
			t.Error("Word at", at, n)
		}
	}
	if n := m.Word(304); n != 0x0807060504030201 {
		t.Errorf("%x", n)
	}
	if n := m.Word(0); n != binary.LittleEndian.Uint64([]byte("LOGBOOK1")) {
		t.Errorf("%x", n)
	}
}

func TestSet(t *testing.T) {
	const n = 0xf807060504030201
	want := slices.Concat(empty(one), make([]byte, 40))
	for at := -100; at < 500; at++ {
		m := Load(one, want, 1<<20)
		there := at%8 == 0 && at >= 192 && at <= 336
		if e := m.Set(at, n); there != (e == api.OK) || !there && e != api.ErrArg {
			t.Error("Set at", at, e)
		}
		after := bytes.Clone(want)
		if there {
			binary.LittleEndian.PutUint64(after[at:], n)
		} else {
			isUnchanged(t, "refused", m)
		}
		if !bytes.Equal(m.Bytes(), after) {
			t.Error("Set at", at, m.Bytes())
		}
	}
}

func TestSetWhereThereIsNone(t *testing.T) {
	m := Load(one, append(empty(one), 0, 0, 0, 0, 0, 0, 0), 1<<20)
	for _, at := range []int{math.MinInt, math.MinInt + 192, -192, -8, 0, 8, 64, 128, 184, 193, 196, 199, 304, 305, 312, math.MaxInt - 7, math.MaxInt - 6, math.MaxInt} {
		for _, n := range []uint64{0, 1, math.MaxUint64} {
			if e := m.Set(at, n); e != api.ErrArg {
				t.Error("Set at", at, e)
			}
		}
	}
	isUnchanged(t, "refused", m)
}

// That there is no such word is told ahead of that it is not 0.
func TestSetTwice(t *testing.T) {
	m := made(t, 1<<20, array(math.MaxUint64, 1<<63, 256))
	tail, b := m.Tail(), m.Bytes()
	m.Done()
	for at := range tail {
		want := api.ErrTwice
		switch {
		case at%8 != 0 || at < 192:
			want = api.ErrArg
		case binary.LittleEndian.Uint64(b[at:]) == 0:
			continue
		}
		for _, n := range []uint64{0, 1, m.Word(at)} {
			if e := m.Set(at, n); e != want {
				t.Error("Set at", at, e, want)
			}
		}
	}
	isUnchanged(t, "refused", m)
	if !bytes.Equal(m.Bytes(), b) {
		t.Error(m.Bytes())
	}
	for _, n := range []uint64{1, 1 << 8, 1 << 56, 1 << 63, math.MaxUint64} {
		set(t, m, head.Root, n)
		if e := m.Set(head.Root, n+1); e != api.ErrTwice || m.Word(head.Root) != n {
			t.Error(e, m.Word(head.Root))
		}
		m.Back()
	}
}

// A word that was set to 0 is 0, and may be set.
func TestSetToNought(t *testing.T) {
	m := made(t, 1<<20, array(0))
	m.Done()
	for range 3 {
		set(t, m, 256, 0)
	}
	set(t, m, 256, 7)
	if e := m.Set(256, 0); e != api.ErrTwice || m.Word(256) != 7 {
		t.Error(e, m.Word(256))
	}
	m.Back()
	if m.Word(256) != 0 {
		t.Error(m.Word(256))
	}
}

// P12.3

func TestPut(t *testing.T) {
	m := made(t, 1<<20)
	want := empty(one)
	for range 3 {
		for _, o := range objects() {
			at := put(t, m, o)
			want = append(want, obj.Encode(o)...)
			if !bytes.Equal(m.Bytes(), want) {
				t.Fatal(m.Bytes(), want)
			}
			if p, ok := m.Object(at); !ok || !obj.Same(o, p) {
				t.Error(at, o, p, ok)
			}
		}
	}
}

func TestPutOfWhatIsNotRight(t *testing.T) {
	for _, o := range wrong() {
		// Told ahead of that there is no room.
		for _, limit := range []int{0, 304, 1 << 20} {
			m := made(t, limit)
			if at, e := m.Put(o); at != 0 || e != api.ErrArg || m.Tail() != 304 {
				t.Error(o, at, e, m.Tail())
			}
			isUnchanged(t, "refused", m)
		}
	}
}

func TestPutUpToTheLimit(t *testing.T) {
	for _, o := range objects() {
		end := 304 + obj.Size(o)
		for limit := 0; limit < 500; limit++ {
			m := made(t, limit)
			at, e := m.Put(o)
			switch {
			case limit >= end && (at != 304 || e != api.OK || m.Tail() != end):
				t.Error(limit, o, at, e, m.Tail())
			case limit < end && (at != 0 || e != api.ErrFile || !bytes.Equal(m.Bytes(), empty(one))):
				t.Error(limit, o, at, e, m.Tail())
			}
		}
	}
	for _, limit := range []int{math.MinInt, math.MinInt + 304, -1 << 32, -344, -304, -1} {
		if at, e := made(t, limit).Put(array(1)); at != 0 || e != api.ErrFile {
			t.Error(limit, at, e)
		}
	}
}

// Without the limit there is room up to MaxBytes, and no more.
func TestPutUpToMaxBytes(t *testing.T) {
	for _, limit := range []int{1 << 20, 1<<20 + 1, 1 << 21, math.MaxInt - 400, math.MaxInt} {
		for _, c := range []struct {
			size int
			want api.Errno
		}{
			{1<<20 - 40, api.OK}, {1<<20 - 39, api.ErrFile}, {1<<20 - 32, api.ErrFile}, {1 << 20, api.ErrFile}, {1<<20 + 8, api.ErrFile},
		} {
			m := Load(one, make([]byte, c.size), limit)
			at, e := m.Put(array(0, 0))
			if e != c.want || e == api.OK && at != c.size || e != api.OK && (at != 0 || m.Tail() != c.size) {
				t.Error(limit, c.size, at, e, m.Tail())
			}
		}
	}
	m := made(t, math.MaxInt)
	full := array(make([]uint64, 1024)...)
	for m.Tail()+8216 <= 1<<20 {
		put(t, m, full)
	}
	if at, e := m.Put(full); at != 0 || e != api.ErrFile {
		t.Error(at, e)
	}
}

// One that there is no room for leaves the room to a smaller one.
func TestPutWhatStillGoes(t *testing.T) {
	m := made(t, 304+72)
	if _, e := m.Put(array(1, 2, 3, 4, 5, 6, 7)); e != api.ErrFile {
		t.Error(e)
	}
	put(t, m, array(1))
	put(t, m, array(1, 2))
	if _, e := m.Put(array(1)); e != api.ErrFile || m.Tail() != 304+72 {
		t.Error(e, m.Tail())
	}
}

func TestObject(t *testing.T) {
	l := objects()
	m := made(t, 1<<20, l...)
	at := map[int]obj.Object{304: l[0], 368: l[1], 416: l[2], 488: l[3]}
	for place := -100; place < 700; place++ {
		want, is := at[place]
		if o, ok := m.Object(place); ok != is || !obj.Same(o, want) {
			t.Error("Object at", place, o, ok)
		}
		for kind := -1; kind <= 6; kind++ {
			o, ok := m.At(uint64(place), kind)
			if right := is && want.Kind == kind; ok != right || right && !obj.Same(o, want) || !right && !obj.Same(o, obj.Object{}) {
				t.Error("At", place, kind, o, ok)
			}
		}
	}
}

func TestObjectWhereThereIsNone(t *testing.T) {
	m := made(t, 1<<20, objects()...)
	for _, at := range []int{math.MinInt, math.MinInt + 304, -304, -1, m.Tail(), m.Tail() + 8, 1 << 32, 1<<32 | 304, math.MaxInt - 7, math.MaxInt} {
		if o, ok := m.Object(at); ok || !obj.Same(o, obj.Object{}) {
			t.Error("Object at", at, o, ok)
		}
	}
	for _, at := range []uint64{0, 1 << 31, 1<<32 | 304, 1 << 63, 1<<63 | 304, math.MaxUint64 - 7, math.MaxUint64} {
		for kind := range 6 {
			if o, ok := m.At(at, kind); ok || !obj.Same(o, obj.Object{}) {
				t.Error("At", at, kind, o, ok)
			}
		}
	}
	for _, kind := range []int{math.MinInt, -1, 0, 5, 257, 1<<32 | 1, math.MaxInt} {
		if o, ok := m.At(304, kind); ok || !obj.Same(o, obj.Object{}) {
			t.Error("At", kind, o, ok)
		}
	}
}

// What stands ahead of the header's Objects is none, be it such bytes or not.
func TestObjectAheadOfObjects(t *testing.T) {
	b := obj.Encode(array(1, 2))
	for at := 0; at <= 360; at += 8 {
		room := make([]byte, 400)
		copy(room[at:], b)
		m := Load(one, room, 1<<20)
		o, ok := m.Object(at)
		p, is := m.At(uint64(at), obj.Array)
		if want := at >= 304; ok != want || is != want || want != obj.Same(o, array(1, 2)) || want != obj.Same(p, array(1, 2)) {
			t.Error(at, o, ok, p, is)
		}
	}
}

// What is set in an object is read in it.
func TestObjectWithWordsSet(t *testing.T) {
	m := made(t, 1<<20, objects()...)
	set(t, m, 488+obj.At(obj.More), 600)
	set(t, m, 488+obj.ItemAt(obj.Array, 1), 416)
	o, ok := m.At(488, obj.Array)
	if !ok || o.Words[obj.More] != 600 || !slices.Equal(o.Items, []uint64{0, 416}) {
		t.Error(o, ok)
	}
}

// An object that bytes break off is none.
func TestObjectThatIsNotWhole(t *testing.T) {
	b := append(empty(one), obj.Encode(array(1, 2))...)
	for n := 304; n <= len(b); n++ {
		o, ok := Load(one, b[:n], 1<<20).Object(304)
		if want := n == len(b); ok != want || want != obj.Same(o, array(1, 2)) {
			t.Error(n, o, ok)
		}
	}
}

// P12.4

func TestChange(t *testing.T) {
	m := made(t, 1<<20, array(0, 0))
	if c := m.Change(); c.At != 304 || !bytes.Equal(c.Fresh, obj.Encode(array(0, 0))) || len(c.Words) != 0 {
		t.Error(c)
	}
	m.Done()
	isUnchanged(t, "done", m)
	b := m.Bytes()
	put(t, m, array(0, 9))
	// In their order, not by their places; of those behind the old end just the bytes.
	set(t, m, 304+32, 0x0807060504030201)
	set(t, m, 344+24, 5)
	set(t, m, head.Root, 304)
	set(t, m, 304+24, 1<<63)
	want := Change{
		At:    344,
		Fresh: obj.Encode(array(5, 9)),
		Words: []Patch{
			{336, []byte{1, 2, 3, 4, 5, 6, 7, 8}},
			{192, []byte{48, 1, 0, 0, 0, 0, 0, 0}},
			{328, []byte{0, 0, 0, 0, 0, 0, 0, 128}},
		},
	}
	for range 2 {
		if c := m.Change(); !sameChange(c, want) || !bytes.Equal(laidOver(b, c), m.Bytes()) {
			t.Error(c, want)
		}
	}
}

// The last word ahead of the old end is one of the changed words, the first one behind it isn't.
func TestChangeAtTheOldEnd(t *testing.T) {
	m := made(t, 1<<20, array(0))
	m.Done()
	put(t, m, obj.Object{Kind: obj.Data, Words: make([]uint64, 5), Raw: []byte{1}})
	set(t, m, 336+16, 3)
	set(t, m, 328, 2)
	c := m.Change()
	if c.At != 336 || len(c.Fresh) != 64 || c.Fresh[16] != 3 || len(c.Words) != 1 || c.Words[0].At != 328 || c.Words[0].B[0] != 2 {
		t.Error(c)
	}
}

// Of each Set, even of one word set to 0 first: its bytes are as they are now.
func TestChangeOfEachSet(t *testing.T) {
	m := made(t, 1<<20)
	set(t, m, 256, 0)
	set(t, m, 264, 1)
	set(t, m, 256, 7)
	want := Change{At: 304, Words: []Patch{
		{256, []byte{7, 0, 0, 0, 0, 0, 0, 0}}, {264, []byte{1, 0, 0, 0, 0, 0, 0, 0}}, {256, []byte{7, 0, 0, 0, 0, 0, 0, 0}},
	}}
	if c := m.Change(); !sameChange(c, want) {
		t.Error(c)
	}
}

func TestDone(t *testing.T) {
	m := made(t, 1<<20, array(0, 0))
	set(t, m, head.Root, 304)
	b := m.Bytes()
	for range 2 {
		m.Done()
		isUnchanged(t, "done", m)
		m.Back()
		isUnchanged(t, "done, and back", m)
		if !bytes.Equal(m.Bytes(), b) {
			t.Error(m.Bytes())
		}
	}
	// It stays: it can't be set again.
	if e := m.Set(head.Root, 5); e != api.ErrTwice {
		t.Error(e)
	}
}

func TestBack(t *testing.T) {
	m := made(t, 304+120, array(0, 0))
	m.Done()
	b := m.Bytes()
	for range 3 {
		at := put(t, m, array(0, 0))
		put(t, m, array(1, 2))
		set(t, m, at+24, 7)
		set(t, m, 304+32, math.MaxUint64)
		set(t, m, head.Root, 304)
		if _, e := m.Put(array(1)); e != api.ErrFile {
			t.Error(e)
		}
		m.Back()
		isUnchanged(t, "back", m)
		if m.Tail() != 344 || !bytes.Equal(m.Bytes(), b) || m.Word(304+32) != 0 || m.Word(at+24) != 0 {
			t.Error(m.Tail(), m.Bytes())
		}
		if o, ok := m.Object(at); ok || !obj.Same(o, obj.Object{}) {
			t.Error(o, ok)
		}
		if e := m.Set(at+24, 1); e != api.ErrArg {
			t.Error(e)
		}
	}
}

// To what was there when all was made, and no further.
func TestBackToTheBegin(t *testing.T) {
	b := append(empty(one), obj.Encode(array(0, 4))...)
	for _, c := range []struct {
		m    *Image
		want []byte
	}{
		{made(t, 1<<20, objects()...), empty(one)},
		{Load(one, b, 1<<20), b},
	} {
		put(t, c.m, array(1))
		set(t, c.m, 288, 5)
		for range 2 {
			c.m.Back()
			isUnchanged(t, "back", c.m)
			if !bytes.Equal(c.m.Bytes(), c.want) {
				t.Error(c.m.Bytes(), c.want)
			}
		}
	}
}

// Bytes that were loaded may end within a word: with an object behind them it isn't 0, as the object's kind begins in it.
func TestChangeAcrossTheOldEnd(t *testing.T) {
	for n := 305; n < 312; n++ {
		b := append(empty(one), make([]byte, n-304)...)
		m := Load(one, b, 1<<20)
		if e := m.Set(304, 1); e != api.ErrArg {
			t.Error(n, e)
		}
		if at := put(t, m, array(0)); at != n || m.Word(304) != 4<<(8*(n-304)) {
			t.Error(n, at, m.Word(304))
		}
		if e := m.Set(304, 1); e != api.ErrTwice {
			t.Error(n, e)
		}
		if o, ok := m.Object(n); ok || !obj.Same(o, obj.Object{}) {
			t.Error(n, o, ok)
		}
		set(t, m, 296, 5)
		set(t, m, 328, math.MaxUint64)
		c := m.Change()
		if c.At != n || len(c.Words) != 1 || !bytes.Equal(laidOver(b, c), m.Bytes()) {
			t.Error(n, c)
		}
		m.Back()
		if !bytes.Equal(m.Bytes(), b) {
			t.Error(n, m.Bytes())
		}
	}
}

// P12.5

// Laid over in a row, what was changed from time to time is all that there is.
func TestChangesInARow(t *testing.T) {
	m := made(t, 1<<20)
	b := m.Bytes()
	last := 0
	for i := range 60 {
		at := put(t, m, array(uint64(i), 0, 0))
		if last > 0 {
			set(t, m, last+obj.At(obj.More), uint64(at))
			set(t, m, last+obj.ItemAt(obj.Array, 1+i%2), uint64(i))
		} else {
			set(t, m, head.Root, uint64(at))
		}
		put(t, m, objects()[i%4])
		b = laidOver(b, m.Change())
		if !bytes.Equal(b, m.Bytes()) {
			t.Fatal(i, b, m.Bytes())
		}
		m.Done()
		if i%3 == 0 {
			put(t, m, array(9))
			set(t, m, at+obj.At(obj.More), 9)
			m.Back()
		}
		last = at
	}
}

// No image, and one that nobody made.

func TestNil(t *testing.T) {
	var m *Image
	for range 2 {
		if m.Head() != (head.Head{}) || len(m.Bytes()) != 0 || m.Tail() != 0 || m.Copy() != nil {
			t.Error(m.Head(), m.Bytes(), m.Tail(), m.Copy())
		}
		for _, at := range []int{math.MinInt, -1, 0, 192, 256, 304, math.MaxInt} {
			if m.Word(at) != 0 || m.Set(at, 0) != api.ErrNil || m.Set(at, 1) != api.ErrNil {
				t.Error(at, m.Word(at), m.Set(at, 1))
			}
			if o, ok := m.Object(at); ok || !obj.Same(o, obj.Object{}) {
				t.Error(at, o, ok)
			}
			if o, ok := m.At(uint64(at), obj.Array); ok || !obj.Same(o, obj.Object{}) {
				t.Error(at, o, ok)
			}
		}
		for _, o := range append(wrong(), objects()...) {
			if at, e := m.Put(o); at != 0 || e != api.ErrNil {
				t.Error(o, at, e)
			}
		}
		if c := m.Change(); c.At != 0 || len(c.Fresh) != 0 || len(c.Words) != 0 {
			t.Error(c)
		}
		m.Done()
		m.Back()
	}
}

// Nothing is asked of it but that it doesn't panic.
func TestImageThatNobodyMade(t *testing.T) {
	var m Image
	m.Set(192, 1)
	m.Put(array(1))
	m.Object(256)
	m.At(256, obj.Array)
	m.Back()
	m.Done()
	if c := m.Copy(); c.Tail() != 0 || len(m.Bytes()) != 0 || len(m.Change().Fresh) != 0 {
		t.Error(c.Bytes(), m.Bytes())
	}
}

// What is handed in is neither changed nor kept, and what is told is new.

func TestLoadKeepsNothing(t *testing.T) {
	want := append(empty(one), obj.Encode(array(0, 0))...)
	room := append(bytes.Clone(want), bytes.Repeat([]byte{7}, 200)...)
	was := bytes.Clone(room)
	m := Load(one, room[:len(want)], 1<<20)
	put(t, m, array(1, 2))
	set(t, m, 304+32, 5)
	if !bytes.Equal(room, was) {
		t.Error("what was handed in is changed:", room)
	}
	m.Back()
	clear(room)
	if !bytes.Equal(m.Bytes(), want) {
		t.Error("what was handed in is kept:", m.Bytes())
	}
}

func TestNewLeavesTheTable(t *testing.T) {
	table := crc.Make()
	m := New(table, one, 1<<20)
	if *table != *crc.Make() {
		t.Error("the table is changed")
	}
	clear(table[:])
	put(t, m, array(1))
	if c := m.Copy(); !bytes.Equal(c.Bytes()[:304], empty(one)) {
		t.Error("the table is kept:", c.Bytes())
	}
}

func TestPutKeepsNothing(t *testing.T) {
	m := made(t, 1<<20)
	for _, o := range objects() {
		words, raw, items := slices.Clone(o.Words), bytes.Clone(o.Raw), slices.Clone(o.Items)
		at := put(t, m, o)
		if !slices.Equal(o.Words, words) || !bytes.Equal(o.Raw, raw) || !slices.Equal(o.Items, items) {
			t.Error("what was handed in is changed:", o)
		}
		clear(o.Words)
		clear(o.Raw)
		clear(o.Items)
		p, _ := m.Object(at)
		if !slices.Equal(p.Words, words) || !bytes.Equal(p.Raw, raw) || !slices.Equal(p.Items, items) {
			t.Error("what was handed in is kept:", p)
		}
	}
}

func TestWhatIsToldIsNew(t *testing.T) {
	m := made(t, 1<<20, objects()...)
	m.Done()
	set(t, m, head.Root, 5)
	set(t, m, 200, 6)
	put(t, m, array(1, 2))
	want := m.Bytes()
	b := m.Bytes()
	clear(b[:cap(b)])
	c := m.Change()
	clear(c.Fresh[:cap(c.Fresh)])
	first := c.Words[0].B
	clear(first[:cap(first)])
	if !bytes.Equal(c.Words[1].B, []byte{6, 0, 0, 0, 0, 0, 0, 0}) {
		t.Error("two patches share their bytes:", c)
	}
	clear(c.Words)
	for _, at := range []int{304, 368, 416, 488} {
		o, _ := m.Object(at)
		clear(o.Words)
		clear(o.Raw)
		clear(o.Items)
	}
	if !bytes.Equal(m.Bytes(), want) {
		t.Error("what was told is kept:", m.Bytes())
	}
	if c := m.Change(); c.At != 528 || len(c.Fresh) != 40 || c.Fresh[24] != 1 || len(c.Words) != 2 || c.Words[0].At != head.Root || c.Words[0].B[0] != 5 {
		t.Error("what was told is kept:", c)
	}
}

// What was told ahead of Back stays, whatever is put then.
func TestWhatWasToldStays(t *testing.T) {
	m := made(t, 1<<20)
	at := put(t, m, array(1, 2))
	b, c := m.Bytes(), m.Change()
	o, _ := m.Object(at)
	n := m.Copy()
	m.Back()
	put(t, m, array(8, 9))
	want := append(empty(one), obj.Encode(array(1, 2))...)
	if !bytes.Equal(b, want) || !bytes.Equal(c.Fresh, want[304:]) || !obj.Same(o, array(1, 2)) || !bytes.Equal(n.Bytes(), want) {
		t.Error(b, c, o, n.Bytes())
	}
}

// A sum by no table is 0; nothing more is asked of it than that it doesn't panic.
func TestNoTable(t *testing.T) {
	if m := New(nil, one, 1<<20); m.Head() != one || m.Tail() != 304 || !bytes.Equal(m.Bytes()[:48], empty(one)[:48]) {
		t.Error(m.Bytes())
	}
}

// The example of the document.

func TestExample(t *testing.T) {
	m := New(crc.Make(), head.Head{Data: 4, Fields: 2}, api.MaxBytes)
	if m.Tail() != 304 {
		t.Error(m.Tail())
	}
	if at, e := m.Put(array(0, 0)); at != 304 || e != api.OK || m.Tail() != 344 {
		t.Error(at, e, m.Tail())
	}
}
