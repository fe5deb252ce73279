package clip

import (
	"bytes"
	"encoding/binary"
	"math"
	"math/rand"
	"slices"
	"strconv"
	"testing"

	"logbook/api"
	"logbook/crc"
	"logbook/entry"
	"logbook/head"
	"logbook/image"
	"logbook/obj"
	"logbook/scan"
	"logbook/slot"
)

func word(b []byte, at int) uint64 { return binary.LittleEndian.Uint64(b[at:]) }

func objectsAt(h head.Head) int { return 256 + 8*h.Data + 8*h.Fields }

// slowWords is the chapter, done by the places of the words alone.
func slowWords(h head.Head, b []byte, tail int) []int {
	l := []int{192}
	for i := range h.Data + h.Fields {
		l = append(l, 256+8*i)
	}
	for at, o := range scan.All(b, objectsAt(h), tail) {
		switch o.Kind {
		case 1:
			l = append(l, at+24, at+32, at+40, at+48)
		case 2:
			l = append(l, at+24, at+32)
		case 4:
			for i := range 1 + len(o.Items) {
				l = append(l, at+16+8*i)
			}
		}
	}
	return l
}

func slowCut(h head.Head, b []byte, tail int) ([]byte, []int, bool) {
	least := objectsAt(h)
	if tail < least || tail > len(b) || !scan.Whole(b, least, tail) {
		return nil, nil, false
	}
	c := append([]byte{}, b[:tail]...)
	var l []int
	for _, at := range slowWords(h, b, tail) {
		if word(c, at) >= uint64(tail) {
			copy(c[at:], "\x00\x00\x00\x00\x00\x00\x00\x00")
			l = append(l, at)
		}
	}
	return c, l, true
}

// isLike looks that each call tells what the chapter, done slowly, does.
func isLike(t *testing.T, h head.Head, b []byte, tail int) {
	t.Helper()
	if l := Words(h, b, tail); !slices.Equal(l, slowWords(h, b, tail)) {
		t.Fatal("Words", h, tail, l)
	}
	want, places, is := slowCut(h, b, tail)
	c, l, ok := Cut(h, b, tail)
	if ok != is || !bytes.Equal(c, want) || !slices.Equal(l, places) {
		t.Fatal("Cut", h, tail, ok, l, places)
	}
	table := crc.Make()
	s := slot.Slot{Turn: 2, Tail: uint64(tail), State: slot.Online}
	if len(b) < 256 || tail%8 != 0 {
		return
	}
	f := slices.Clone(b)
	copy(f, slices.Concat(h.Encode(table), s.Encode(table), make([]byte, 64)))
	// The header and the slots are no words of Words: the cut is the same.
	want, places, is = slowCut(h, f, tail)
	m, got, l, e := Open(table, f, 1<<20)
	if !is {
		if m != nil || got != (slot.Slot{}) || l != nil || e != api.ErrBad {
			t.Fatal("Open", h, tail, got, l, e)
		}
		return
	}
	if e != api.OK || got != s || !slices.Equal(l, places) || m.Head() != h || !bytes.Equal(m.Bytes(), want) {
		t.Fatal("Open", h, tail, got, l, places, e)
	}
}

// anyWord tells a number, which now and then is a place of a file.
func anyWord(r *rand.Rand) uint64 {
	switch r.Intn(6) {
	case 0:
		return r.Uint64()
	case 1:
		return 0
	case 2:
		return math.MaxUint64 - uint64(r.Intn(1000))
	}
	return uint64(r.Intn(1000))
}

func anyObject(r *rand.Rand) obj.Object {
	kind := 1 + r.Intn(4)
	o := obj.Object{Kind: kind}
	for range obj.Words(kind) {
		o.Words = append(o.Words, anyWord(r))
	}
	if kind <= 2 {
		o.Raw = make([]byte, 1+r.Intn(20))
		r.Read(o.Raw)
		return o
	}
	for range 1 + r.Intn(6) {
		o.Items = append(o.Items, anyWord(r))
	}
	return o
}

// anyFile makes a file by chance; some bytes of it may be changed.
func anyFile(r *rand.Rand) (head.Head, []byte, []int) {
	h := head.Head{ID: r.Uint64(), Key: r.Uint64(), Data: 1 + r.Intn(6), Fields: 1 + r.Intn(6), Made: r.Uint64()}
	b := make([]byte, objectsAt(h))
	for at := 0; at < len(b); at += 8 {
		binary.LittleEndian.PutUint64(b[at:], anyWord(r))
	}
	tails := []int{len(b)}
	for range r.Intn(9) {
		b = append(b, obj.Encode(anyObject(r))...)
		tails = append(tails, len(b))
	}
	b = append(b, make([]byte, r.Intn(20))...)
	for n := r.Intn(6) - 3; n > 0; n-- {
		b[r.Intn(len(b))] = byte([]int{0, 1, 3, 8, 255}[r.Intn(5)])
	}
	return h, b, tails
}

// P18.1, P18.2, P18.3

func TestFilesByChance(t *testing.T) {
	for seed := range int64(2000) {
		r := rand.New(rand.NewSource(seed))
		h, b, tails := anyFile(r)
		tails = append(tails, far...)
		for range 10 {
			tails = append(tails, r.Intn(len(b)+20), r.Intn(len(b)+20)&^7)
		}
		for _, tail := range tails {
			isLike(t, h, b, tail)
			isLike(t, h, b[:r.Intn(len(b)+1)], tail)
		}
	}
}

// then is a file as it was at image.Done, with its entries.
type then struct {
	b []byte
	l []api.Record
}

// grown makes a file, entry by entry, and tells it as it was at each time.
func grown(t *testing.T, r *rand.Rand, entries int) (head.Head, []then) {
	t.Helper()
	h := head.Head{ID: 1, Key: r.Uint64(), Data: 1 + r.Intn(9), Fields: 1 + r.Intn(4)}
	m := image.New(crc.Make(), h, 1<<20)
	l := []then{{b: m.Bytes()}}
	for seq := range uint64(entries) {
		x := api.Record{Seq: seq + 1, Real: r.Uint64(), Mono: r.Uint64(), Boot: uint64(r.Intn(3))}
		for range 1 + r.Intn(5) {
			x.Items = append(x.Items, string(rune('A'+r.Intn(6)))+"="+strconv.Itoa(r.Intn(12)))
		}
		if _, e := entry.Add(m, x); e != api.OK {
			t.Fatal(e)
		}
		// What is refused, and taken back, leaves nothing.
		if _, e := entry.Add(m, api.Record{Items: []string{"A=new", "bad"}}); e != api.ErrName {
			t.Fatal(e)
		}
		m.Done()
		l = append(l, then{b: m.Bytes(), l: entry.All(m)})
	}
	return h, l
}

// changed tells where the words of both differ.
func changed(was, now []byte) []int {
	var l []int
	for at := 0; at < len(was); at += 8 {
		if word(was, at) != word(now, at) {
			l = append(l, at)
		}
	}
	return l
}

// behind makes the bytes behind a file: those of the later one, less or more of them, or any.
func behind(r *rand.Rand, later []byte) []byte {
	switch r.Intn(4) {
	case 0:
		return later
	case 1:
		return later[:r.Intn(len(later)+1)]
	case 2:
		return nil
	}
	b := make([]byte, r.Intn(300))
	if r.Intn(2) == 0 {
		r.Read(b)
	}
	return b
}

// isThen looks that bytes, cut where a file ended, are the file, and that they open as it.
func isThen(t *testing.T, h head.Head, b []byte, was then, differ []int) {
	t.Helper()
	isCut(t, "then", h, b, len(was.b), was.b, differ)
	table := crc.Make()
	f, s := slices.Clone(b), slot.Slot{Turn: 1, Tail: uint64(len(was.b)), State: slot.Online}
	copy(f[s.Place():], s.Encode(table))
	m, got, l, e := Open(table, f, 1<<20)
	if e != api.OK || got != s || !slices.Equal(l, differ) || m.Head() != h {
		t.Fatal("Open", got, l, differ, e)
	}
	want := slices.Clone(was.b)
	copy(want[s.Place():], s.Encode(table))
	if !bytes.Equal(m.Bytes(), want) || !slices.EqualFunc(entry.All(m), was.l, entry.Same) {
		t.Fatal("Open", len(was.l))
	}
}

// P18.4

// Of each word either of the two, by chance.
func TestCutWhereItEnded(t *testing.T) {
	for seed := range int64(60) {
		r := rand.New(rand.NewSource(seed))
		h, l := grown(t, r, 1+r.Intn(60))
		for range 60 {
			i := r.Intn(len(l))
			was, now := l[i], l[i+r.Intn(len(l)-i)]
			b := slices.Clone(was.b)
			var differ []int
			for _, at := range changed(was.b, now.b) {
				if r.Intn(2) == 0 {
					copy(b[at:at+8], now.b[at:])
					differ = append(differ, at)
				}
			}
			isThen(t, h, append(b, behind(r, now.b[len(b):])...), was, differ)
		}
	}
}

// Every part of the words that one entry more changes.
func TestCutOfEveryPart(t *testing.T) {
	files := 0
	for seed := range int64(20) {
		r := rand.New(rand.NewSource(seed))
		h, l := grown(t, r, 12)
		for i, was := range l[:12] {
			now := l[i+1]
			places := changed(was.b, now.b)
			if len(places) > 8 {
				continue
			}
			files++
			for part := range 1 << len(places) {
				b := slices.Clone(now.b)
				var differ []int
				for n, at := range places {
					if part>>n&1 == 1 {
						differ = append(differ, at)
					} else {
						copy(b[at:at+8], was.b[at:])
					}
				}
				isThen(t, h, b, was, differ)
			}
		}
	}
	if files < 100 {
		t.Error("just", files)
	}
}

// All later words, at each time: the last one of all words that were set is the one that goes.
func TestCutAtEachTime(t *testing.T) {
	r := rand.New(rand.NewSource(1))
	h, l := grown(t, r, 150)
	last := l[len(l)-1]
	for _, was := range l {
		isThen(t, h, last.b, was, changed(was.b, last.b))
	}
}
