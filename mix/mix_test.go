package mix

import (
	"bytes"
	"math"
	"testing"

	"logbook/le"
)

// golden is the number that a key is taken with, and that a sum is multiplied by.
const golden uint64 = 0x9E3779B97F4A7C15

var keys = []uint64{0, 1, 7, golden, 1 << 32, 1 << 63, 0x0123456789abcdef, math.MaxUint64}

// text tells n bytes, none of them 0, with the highest bit and without it.
func text(n int) []byte {
	b := make([]byte, n)
	for i := range b {
		b[i] = byte(i*37)%255 + 1
	}
	return b
}

// slowStir is the chapter's, sentence by sentence.
func slowStir(h, w uint64) uint64 {
	w *= 0xC2B2AE3D27D4EB4F
	h = h&^w | w&^h
	for range 29 {
		h = 2*h + h/(1<<63)
	}
	h *= golden
	cut := h / (1 << 32)
	return h&^cut | cut&^h
}

// slowHash is the chapter's, sentence by sentence.
func slowHash(key uint64, b []byte) uint64 {
	h := key ^ golden
	at := 0
	for {
		w, ok := le.Get(b, at, 8)
		if !ok {
			break
		}
		h = slowStir(h, w)
		at += 8
	}
	rest := uint64(0)
	for i := len(b) - 1; i >= at; i-- {
		rest = rest*256 + uint64(b[i])
	}
	return slowStir(slowStir(h, rest), uint64(len(b)))
}

// P2.1

func TestHashIsTheNumber(t *testing.T) {
	const fox = "the quick brown fox"
	const high = "\xf0\xf1\xf2\xf3\xf4\xf5\xf6\xf7\xf8\xf9\xfa\xfb\xfc\xfd\xfe\xff\x80"
	for _, c := range []struct {
		key  uint64
		text string
		want uint64
	}{
		{0, "", 0x6284b584c6d047a7},
		{7, "", 0x84164d4e58ba2eb0},
		{golden, "", 0},
		{math.MaxUint64, "", 0x759c5f30a7d61175},
		{0, "\x00", 0x45377fd42e1f9e04},
		{7, "a", 0x0d7d90043e6744ac},
		{7, "A=1", 0x79ce6cce9f9bdfa7},
		{7, fox[:7], 0x6057da9809447ba5},
		{7, fox[:8], 0x7ce52fc1c99f299b},
		{7, fox[:9], 0xb00a9401df597dd3},
		{7, fox[:15], 0xbf29692c5dabfed4},
		{7, fox[:16], 0xe644494ac86ea996},
		{7, fox, 0x6f4e7eae4a5e5587},
		{8, fox, 0xc02a836cdc699300},
		{math.MaxUint64, fox, 0x8af6edc5896a42c9},
		{0, high, 0x7365f3724febbb63},
		{0x0123456789abcdef, string(make([]byte, 24)), 0x7fe43207153f507a},
		{0x0123456789abcdef, string(bytes.Repeat([]byte{0xff}, 24)), 0x36268c14484ecb00},
	} {
		if h := Hash(c.key, []byte(c.text)); h != c.want {
			t.Errorf("Hash by %x of %q: %x; want %x", c.key, c.text, h, c.want)
		}
	}
}

func TestHashIsTheChapters(t *testing.T) {
	for _, key := range keys {
		for n := range 70 {
			if h, want := Hash(key, text(n)), slowHash(key, text(n)); h != want {
				t.Errorf("Hash by %x of %d bytes: %x; want %x", key, n, h, want)
			}
		}
	}
	for _, n := range []int{255, 256, 257, 1023, 1024, 1025, 8192, 1 << 20} {
		if h, want := Hash(7, text(n)), slowHash(7, text(n)); h != want {
			t.Errorf("Hash of %d bytes: %x; want %x", n, h, want)
		}
	}
}

func TestHashOfNothing(t *testing.T) {
	for _, key := range keys {
		want := slowStir(slowStir(key^golden, 0), 0)
		if Hash(key, nil) != want || Hash(key, []byte{}) != want {
			t.Errorf("Hash by %x of nothing: %x, %x; want %x", key, Hash(key, nil), Hash(key, []byte{}), want)
		}
	}
}

// Noughts alone differ by how many they are, and noughts behind a text count.
func TestHashCountsNoughts(t *testing.T) {
	for _, front := range []string{"", "a", "1234567", "12345678"} {
		seen := map[uint64]int{}
		for n := range 40 {
			h := Hash(7, append([]byte(front), make([]byte, n)...))
			if other, twice := seen[h]; twice {
				t.Errorf("%q with %d and with %d noughts are alike", front, other, n)
			}
			seen[h] = n
		}
	}
}

// Of texts that differ in one bit, and by keys that do, the sums differ.
func TestHashHangsOnEveryBit(t *testing.T) {
	b := text(21)
	want := Hash(7, b)
	for bit := range 8 * len(b) {
		b[bit/8] ^= 1 << (bit % 8)
		if Hash(7, b) == want {
			t.Error("another bit", bit, "makes no other sum")
		}
		b[bit/8] ^= 1 << (bit % 8)
	}
	for bit := range 64 {
		if Hash(7^1<<bit, b) == want {
			t.Error("another bit", bit, "of the key makes no other sum")
		}
	}
}

func TestHashLeavesSpareRoomOut(t *testing.T) {
	b := text(24)
	for n := range b {
		if h := Hash(7, b[:n]); h != slowHash(7, bytes.Clone(b[:n])) {
			t.Error("what lies behind", n, "bytes counts")
		}
	}
	if !bytes.Equal(b, text(24)) {
		t.Error("what was handed in is changed:", b)
	}
}

// P2.2

func TestSumOfNothing(t *testing.T) {
	for _, key := range keys {
		s := New(key)
		want := Hash(key, nil)
		if v := s.Value(); v != want {
			t.Errorf("Value by %x: %x; want %x", key, v, want)
		}
		s.Add()
		s.Add([]byte{}...)
		s.Add(nil...)
		if v := s.Value(); v != want {
			t.Errorf("Value by %x of nothing added: %x; want %x", key, v, want)
		}
	}
}

// All ways to cut a text in three are gone through, so that each part begins and ends at each place of a word.
func TestValueOfPartsIsHashOfAll(t *testing.T) {
	b := text(33)
	for n := range len(b) + 1 {
		want := Hash(7, b[:n])
		for second := range n + 1 {
			for first := range second + 1 {
				s := New(7)
				s.Add(b[:first]...)
				s.Add(b[first:second]...)
				s.Add(b[second:n]...)
				if v := s.Value(); v != want {
					t.Fatalf("Value of %d bytes, cut at %d and %d: %x; want %x", n, first, second, v, want)
				}
			}
		}
	}
}

func TestValueOfSinglesIsHashOfAll(t *testing.T) {
	for _, key := range keys {
		s := New(key)
		b := text(40)
		for i, x := range b {
			s.Add(x)
			s.Add()
			if v := s.Value(); v != Hash(key, b[:i+1]) {
				t.Errorf("Value by %x of %d bytes one by one: %x", key, i+1, v)
			}
		}
	}
	s := New(7)
	s.Add(1, 2, 3)
	if s.Value() != Hash(7, []byte{1, 2, 3}) {
		t.Error("bytes side by side")
	}
}

func TestValueIsAskedAgain(t *testing.T) {
	b := text(50)
	for step := 1; step <= 17; step++ {
		s := New(7)
		for at := 0; at < len(b); at += step {
			end := min(at+step, len(b))
			s.Add(b[at:end]...)
			want := Hash(7, b[:end])
			for range 3 {
				if v := s.Value(); v != want {
					t.Fatalf("Value of %d bytes by steps of %d: %x; want %x", end, step, v, want)
				}
			}
		}
	}
}

func TestSumsStandAlone(t *testing.T) {
	a, b, c := New(7), New(7), New(8)
	a.Add(text(11)...)
	b.Add(9)
	c.Add(text(11)...)
	a.Add(5)
	if a.Value() != Hash(7, append(text(11), 5)) || b.Value() != Hash(7, []byte{9}) || c.Value() != Hash(8, text(11)) {
		t.Errorf("%x, %x, %x", a.Value(), b.Value(), c.Value())
	}
}

func TestSumKeepsNothing(t *testing.T) {
	room := text(30)
	s := New(7)
	s.Add(room[:13]...)
	s.Add(1, 2, 3)
	if !bytes.Equal(room, text(30)) {
		t.Error("what was handed in is changed:", room)
	}
	clear(room)
	if v := s.Value(); v != Hash(7, append(text(13), 1, 2, 3)) {
		t.Errorf("what was handed in is kept: %x", v)
	}
}

// P2.3

func TestBucket(t *testing.T) {
	for _, c := range []struct {
		h    uint64
		n    int
		want int
	}{
		{0, 1, 0}, {1, 1, 0}, {math.MaxUint64, 1, 0},
		{10, 4, 2}, {3, 4, 3}, {4, 4, 0}, {5, 4, 1}, {10, 11, 10}, {11, 11, 0},
		{1 << 63, 3, 2}, {1 << 63, 1000, 808},
		{math.MaxUint64, 2, 1}, {math.MaxUint64, 7, 1}, {math.MaxUint64, 10, 5},
		{math.MaxInt - 1, math.MaxInt, math.MaxInt - 1},
		{math.MaxInt, math.MaxInt, 0},
		{math.MaxUint64, math.MaxInt, 1},
		{math.MaxUint64 - 2, math.MaxInt, math.MaxInt - 1},
	} {
		if b := Bucket(c.h, c.n); b != c.want {
			t.Errorf("Bucket of %d by %d: %d; want %d", c.h, c.n, b, c.want)
		}
	}
}

func TestBucketOfNone(t *testing.T) {
	for _, n := range []int{0, -1, -2, -4, math.MinInt + 1, math.MinInt} {
		for _, h := range []uint64{0, 1, 10, 1 << 63, math.MaxUint64} {
			if b := Bucket(h, n); b != 0 {
				t.Errorf("Bucket of %d by %d: %d", h, n, b)
			}
		}
	}
}
