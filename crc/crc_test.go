package crc

import (
	"bytes"
	"hash/crc32"
	"math"
	"testing"
)

var sums = []uint32{0, 1, 2, 0xff, 0x100, 0xCBF43926, 0xEDB88320, 1 << 31, math.MaxInt32, math.MaxUint32 - 1, math.MaxUint32}

// text tells n bytes, each byte among 256 of them.
func text(n int) []byte {
	b := make([]byte, n)
	for i := range b {
		b[i] = byte(i * 37)
	}
	return b
}

// slowSum is the remainder of a division, bit by bit, without a table; it is begun with all bits, and turned over.
func slowSum(b []byte) uint32 {
	c := uint32(math.MaxUint32)
	for _, x := range b {
		for bit := range 8 {
			last := c&1 == 1
			c /= 2
			if last != (x>>bit&1 == 1) {
				c = c&^0xEDB88320 | 0xEDB88320&^c
			}
		}
	}
	return math.MaxUint32 - c
}

// P3.1

func TestMakeIsTheNumbers(t *testing.T) {
	table := Make()
	for _, c := range []struct {
		at   int
		want uint32
	}{
		{0, 0}, {1, 0x77073096}, {2, 0xee0e612c}, {3, 0x990951ba}, {4, 0x076dc419}, {7, 0x9e6495a3}, {8, 0x0edb8832},
		{15, 0x90bf1d91}, {16, 0x1db71064}, {31, 0x8d080df5}, {32, 0x3b6e20c8}, {64, 0x76dc4190}, {85, 0x1b01a57b},
		{127, 0xc0ba6cad}, {128, 0xedb88320}, {129, 0x9abfb3b6}, {170, 0x36034af6}, {192, 0x9b64c2b0},
		{254, 0x5a05df1b}, {255, 0x2d02ef8d},
	} {
		if table[c.at] != c.want {
			t.Errorf("entry %d: %x; want %x", c.at, table[c.at], c.want)
		}
	}
}

func TestMakeIsTheChapters(t *testing.T) {
	table := Make()
	if len(table) != 256 {
		t.Error(len(table), "entries")
	}
	for i, have := range table {
		want := uint32(i)
		for range 8 {
			if want%2 == 1 {
				want = want/2 ^ 0xEDB88320
			} else {
				want /= 2
			}
		}
		if have != want || have != crc32.IEEETable[i] {
			t.Errorf("entry %d: %x; want %x", i, have, want)
		}
	}
}

func TestTablesStandAlone(t *testing.T) {
	a, b := Make(), Make()
	if a == b || *a != *b {
		t.Error("tables are one, or differ")
	}
	clear(a[:])
	if *b != *Make() || *b == *a || b.Sum([]byte("123456789")) != 0xcbf43926 {
		t.Error("a table changes with another one")
	}
}

// P3.2

func TestSumIsTheNumber(t *testing.T) {
	table := Make()
	for _, c := range []struct {
		text string
		want uint32
	}{
		{"", 0},
		{"\x00", 0xd202ef8d},
		{"\xff", 0xff000000},
		{"a", 0xe8b7be43},
		{"A=1", 0xb52f7661},
		{"123456789", 0xcbf43926},
		{"the quick brown fox", 0x91c102ca},
		{"\x00\x00\x00\x00", 0x2144df1c},
		{"\xff\xff\xff\xff", 0xffffffff},
		{string(make([]byte, 64)), 0x758d6336},
		{string(bytes.Repeat([]byte{0xff}, 64)), 0x0f6187ba},
		{string(text(63)), 0x3164e374},
		{string(text(64)), 0x0f3ef7a7},
		{string(text(65)), 0xec63a6a1},
		{string(text(256)), 0x3ba79ccf},
		{string(text(8192)), 0x9fa37656},
		{string(text(1 << 20)), 0x64e0c2a4},
	} {
		if s := table.Sum([]byte(c.text)); s != c.want {
			t.Errorf("Sum of %d bytes, %.30q: %x; want %x", len(c.text), c.text, s, c.want)
		}
	}
}

func TestSumIsTheDivisions(t *testing.T) {
	table := Make()
	for n := range 300 {
		b := text(n)
		if s, want := table.Sum(b), slowSum(b); s != want || s != crc32.ChecksumIEEE(b) {
			t.Errorf("Sum of %d bytes: %x; want %x", n, s, want)
		}
	}
	for i := range 256 {
		for j := range 256 {
			b := []byte{byte(i), byte(j)}
			if s, want := table.Sum(b), slowSum(b); s != want {
				t.Fatalf("Sum of %v: %x; want %x", b, s, want)
			}
		}
	}
}

// The sums are no text's that is known: they are gone on with as they are.
func TestAddIsTheNumber(t *testing.T) {
	table := Make()
	for _, c := range []struct {
		sum  uint32
		text string
		want uint32
	}{
		{0, "\x00", 0xd202ef8d}, {0, "a", 0xe8b7be43}, {0, "56789", 0x131da070},
		{1, "\x00", 0xa505df1b}, {1, "\xff", 0x88073096}, {1, "a", 0x9fb08ed5}, {1, "56789", 0x2e7d89c0},
		{1 << 31, "\x00", 0xd282ef8d}, {1 << 31, "\xff", 0xff800000}, {1 << 31, "56789", 0x289e383b},
		{math.MaxUint32, "\x00", 0xffffffff}, {math.MaxUint32, "\xff", 0xd2fd1072}, {math.MaxUint32, "a", 0xc54aae31},
		{0xcbf43926, "\x00", 0x00c49e49}, {0xcbf43926, "\xff", 0x2dc671c4}, {0xcbf43926, "56789", 0x4a7c1876},
	} {
		if s := table.Add(c.sum, []byte(c.text)...); s != c.want {
			t.Errorf("Add to %x of %q: %x; want %x", c.sum, c.text, s, c.want)
		}
	}
	for _, sum := range sums {
		for n := range 70 {
			b := text(n)
			if s, want := table.Add(sum, b...), crc32.Update(sum, crc32.IEEETable, b); s != want {
				t.Errorf("Add to %x of %d bytes: %x; want %x", sum, n, s, want)
			}
		}
	}
}

func TestNothingAdded(t *testing.T) {
	table := Make()
	if table.Sum(nil) != 0 || table.Sum([]byte{}) != 0 {
		t.Errorf("Sum of nothing: %x, %x", table.Sum(nil), table.Sum([]byte{}))
	}
	for _, sum := range sums {
		for _, s := range []uint32{table.Add(sum), table.Add(sum, nil...), table.Add(sum, []byte{}...)} {
			if s != sum {
				t.Errorf("Add to %x of nothing: %x", sum, s)
			}
		}
	}
}

func TestAddOfBytesSideBySide(t *testing.T) {
	table := Make()
	if s := table.Add(0, '1', '2', '3', '4', '5', '6', '7', '8', '9'); s != 0xcbf43926 {
		t.Errorf("%x", s)
	}
}

func TestNoTable(t *testing.T) {
	var none *Table
	for n := range 20 {
		if s := none.Sum(text(n)); s != 0 {
			t.Errorf("Sum of %d bytes: %x", n, s)
		}
		for _, sum := range sums {
			if s := none.Add(sum, text(n)...); s != 0 {
				t.Errorf("Add to %x of %d bytes: %x", sum, n, s)
			}
		}
	}
	if none.Sum(nil) != 0 || none.Add(7) != 0 {
		t.Errorf("%x, %x", none.Sum(nil), none.Add(7))
	}
}

func TestSumLeavesSpareRoomOut(t *testing.T) {
	table := Make()
	b := text(40)
	for n := range b {
		want := slowSum(bytes.Clone(b[:n]))
		if table.Sum(b[:n]) != want || table.Add(0, b[:n]...) != want {
			t.Error("what lies behind", n, "bytes counts")
		}
	}
	if !bytes.Equal(b, text(40)) {
		t.Error("what was handed in is changed:", b)
	}
}

func TestSumsLeaveTheTable(t *testing.T) {
	table := Make()
	for range 2 {
		if s := table.Sum(text(500)); s != slowSum(text(500)) {
			t.Errorf("%x", s)
		}
		table.Add(9, text(500)...)
	}
	if *table != *Make() {
		t.Error("the table is changed")
	}
}

// P3.3

func TestSumOfTwoTexts(t *testing.T) {
	table := Make()
	b := text(70)
	for n := range len(b) + 1 {
		want := slowSum(b[:n])
		for cut := range n + 1 {
			if s := table.Add(table.Sum(b[:cut]), b[cut:n]...); s != want {
				t.Errorf("Sum of %d bytes, cut at %d: %x; want %x", n, cut, s, want)
			}
		}
	}
}

func TestSumOfSingles(t *testing.T) {
	table := Make()
	b := text(300)
	s := table.Sum(nil)
	for i, x := range b {
		s = table.Add(s, x)
		if s != slowSum(b[:i+1]) {
			t.Errorf("Sum of %d bytes one by one: %x", i+1, s)
		}
	}
}
