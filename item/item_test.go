package item

import (
	"slices"
	"strings"
	"testing"

	"logbook/api"
)

const nameBytes = "ABCDEFGHIJKLMNOPQRSTUVWXYZ0123456789_"

// sized tells an item of so many bytes, its field A.
func sized(n int) string { return "A=" + strings.Repeat("x", n-2) }

// permutations calls do with a list in each of its orders.
func permutations(l []string, do func([]string)) {
	var place func(done, left []string)
	place = func(done, left []string) {
		if len(left) == 0 {
			do(done)
		}
		for i, s := range left {
			place(append(slices.Clone(done), s), slices.Delete(slices.Clone(left), i, i+1))
		}
	}
	place(nil, l)
}

// P4.1

func TestNameByItsBytes(t *testing.T) {
	for i := range 256 {
		c := string([]byte{byte(i)})
		may := strings.Contains(nameBytes, c)
		digit := may && strings.Contains("0123456789", c)
		if Name(c) != (may && !digit) {
			t.Errorf("Name of %q: %v", c, Name(c))
		}
		for _, s := range []string{"A" + c, "_" + c, "A" + c + "9", strings.Repeat("Z", 63) + c} {
			if Name(s) != may {
				t.Errorf("Name of %q: %v", s, Name(s))
			}
		}
	}
}

func TestNameByItsLength(t *testing.T) {
	for n := range 200 {
		want := n >= 1 && n <= 64
		for _, s := range []string{strings.Repeat("A", n), strings.Repeat("_", n)} {
			if Name(s) != want {
				t.Errorf("Name of %d bytes: %v", n, Name(s))
			}
		}
	}
	if Name(strings.Repeat("A", 1<<20)) {
		t.Error("a name of 2^20 bytes")
	}
}

func TestNames(t *testing.T) {
	for _, s := range []string{"A", "Z", "_", "__", "_9", "MESSAGE", "_SYSTEMD_UNIT", "A0123456789", "_X9", strings.Repeat("A", 63) + "9"} {
		if !Name(s) {
			t.Errorf("%q is no name", s)
		}
	}
	for _, s := range []string{"", "9", "0A", "9_", "a", "Aa", "mESSAGE", "A=", "=", " A", "A ", "A B", "A-B", "A\n", "A\x00", "\x00", "Ä", "A\xc1", "Ａ"} {
		if Name(s) {
			t.Errorf("%q is a name", s)
		}
	}
}

func TestSplit(t *testing.T) {
	long := strings.Repeat("A", 64)
	for _, c := range []struct {
		s, field, value string
		ok              bool
	}{
		{"A=b=c", "A", "b=c", true},
		{"A=1", "A", "1", true},
		{"A=", "A", "", true},
		{"A==", "A", "=", true},
		{"A=B=", "A", "B=", true},
		{"_X9=\x00\xff\n", "_X9", "\x00\xff\n", true},
		{"MESSAGE= a b ", "MESSAGE", " a b ", true},
		{long + "=1", long, "1", true},
		{"A=" + strings.Repeat("x", 5000), "A", strings.Repeat("x", 5000), true},
		{"", "", "", false},
		{"A", "", "", false},
		{"=", "", "", false},
		{"=1", "", "", false},
		{"=A=1", "", "", false},
		{"a=1", "", "", false},
		{"9=1", "", "", false},
		{"A B=1", "", "", false},
		{" A=1", "", "", false},
		{"A =1", "", "", false},
		{"A\x00=1", "", "", false},
		{"Ä=1", "", "", false},
		{"a=B=1", "", "", false},
		{"A:1", "", "", false},
		{long + "A=1", "", "", false},
		{long, "", "", false},
	} {
		field, value, ok := Split(c.s)
		if field != c.field || value != c.value || ok != c.ok {
			t.Errorf("Split of %.70q: %q %q %v", c.s, field, value, ok)
		}
		if f := Field(c.s); f != c.field {
			t.Errorf("Field of %.70q: %q", c.s, f)
		}
	}
}

func TestSplitAtAllNames(t *testing.T) {
	for i := range 256 {
		c := string([]byte{byte(i)})
		for _, name := range []string{c, "A" + c, c + "A"} {
			if i == '=' {
				continue
			}
			field, value, ok := Split(name + "=v=w")
			if ok != Name(name) || ok && (field != name || value != "v=w") || !ok && (field != "" || value != "") {
				t.Errorf("Split of %q=v=w: %q %q %v", name, field, value, ok)
			}
		}
	}
}

// P4.2

func TestCheckInAllOrders(t *testing.T) {
	want := []string{"A1=x", "A=", "A=1", "A=10", "A=2", "B=", "_A=\x00"}
	permutations(want, func(l []string) {
		have, e := Check(l...)
		if e != api.OK || !slices.Equal(have, want) {
			t.Fatalf("Check of %q: %q %v", l, have, e)
		}
	})
	permutations([]string{"B=2", "A=1", "B=2", "A=1", "B=2"}, func(l []string) {
		have, e := Check(l...)
		if e != api.OK || !slices.Equal(have, []string{"A=1", "B=2"}) {
			t.Fatalf("Check of %q: %q %v", l, have, e)
		}
	})
}

func TestCheckRisesByBytes(t *testing.T) {
	for _, c := range []struct{ given, want []string }{
		{[]string{"A=1"}, []string{"A=1"}},
		{[]string{"A="}, []string{"A="}},
		{[]string{"B=2", "A=1", "B=2"}, []string{"A=1", "B=2"}},
		{[]string{"A=", "A1=", "A_=", "AA="}, []string{"A1=", "A=", "AA=", "A_="}},
		{[]string{"A=\xff", "A=ä", "A=z", "A=Z", "A=\x00", "A=9"}, []string{"A=\x00", "A=9", "A=Z", "A=z", "A=ä", "A=\xff"}},
		{[]string{"A=b", "A=a\x00", "A=a", "A=aa"}, []string{"A=a", "A=a\x00", "A=aa", "A=b"}},
		{[]string{"A=1", "A=1", "A=1"}, []string{"A=1"}},
	} {
		have, e := Check(c.given...)
		if e != api.OK || !slices.Equal(have, c.want) {
			t.Errorf("Check of %q: %q %v", c.given, have, e)
		}
	}
	if have, e := Check("B=", "A="); e != api.OK || !slices.Equal(have, []string{"A=", "B="}) {
		t.Errorf("%q %v", have, e)
	}
}

func TestCheckRefuses(t *testing.T) {
	many := slices.Repeat([]string{"A=1"}, 65)
	full := slices.Repeat([]string{sized(1024)}, 8)
	with := func(l []string, more ...string) []string { return append(slices.Clone(l), more...) }
	for name, c := range map[string]struct {
		given []string
		want  api.Errno
	}{
		"nil":                          {nil, api.ErrArg},
		"none":                         {[]string{}, api.ErrArg},
		"65":                           {many, api.ErrBig},
		"66":                           {with(many, "A=1"), api.ErrBig},
		"1025 bytes":                   {[]string{sized(1025)}, api.ErrBig},
		"1025 bytes, the last one":     {[]string{"A=1", sized(1025)}, api.ErrBig},
		"an empty one":                 {[]string{""}, api.ErrName},
		"no =":                         {[]string{"A"}, api.ErrName},
		"a small letter":               {[]string{"a=1"}, api.ErrName},
		"no field":                     {[]string{"=1"}, api.ErrName},
		"a digit":                      {[]string{"9=1"}, api.ErrName},
		"a field of 65 bytes":          {[]string{strings.Repeat("A", 65) + "=1"}, api.ErrName},
		"no field, the last one":       {[]string{"A=1", "B=1", "A=1", "b=1"}, api.ErrName},
		"8193 bytes":                   {append(slices.Repeat([]string{sized(1024)}, 7), sized(1022), "A="+"x"), api.ErrBig},
		"8194 bytes":                   {with(full, "B="), api.ErrBig},
		"9216 bytes of one item":       {slices.Repeat([]string{sized(1024)}, 9), api.ErrBig},
		"65, and no field":             {slices.Repeat([]string{"a"}, 65), api.ErrBig},
		"65, and the first no field":   {with([]string{"a"}, many[1:]...), api.ErrBig},
		"1025 bytes without field":     {[]string{strings.Repeat("a", 1025)}, api.ErrBig},
		"no field ahead of 1025 bytes": {[]string{"a", sized(1025)}, api.ErrName},
		"1025 bytes ahead of no field": {[]string{sized(1025), "a"}, api.ErrBig},
		"no field, of 8193 bytes":      {with(full, "a"), api.ErrName},
		"no field behind 9216 bytes":   {with(full, sized(1024), "a"), api.ErrName},
		"no field of 1024 bytes":       {[]string{strings.Repeat("A", 1024)}, api.ErrName},
	} {
		have, e := Check(c.given...)
		if e != c.want || len(have) != 0 {
			t.Errorf("%s: %d items, %v", name, len(have), e)
		}
	}
}

func TestCheckTakesTheGreatest(t *testing.T) {
	different := make([]string, 64)
	for i := range different {
		different[i] = "A=" + string(rune('0'+i))
	}
	field := strings.Repeat("A", 64)
	eight := make([]string, 8)
	for i := range eight {
		eight[i] = field + "=" + strings.Repeat(string(rune('a'+i)), 1024-65)
	}
	for name, c := range map[string]struct{ given, want []string }{
		"64 items":               {different, different},
		"64 times one":           {slices.Repeat([]string{"A=1"}, 64), []string{"A=1"}},
		"1024 bytes":             {[]string{sized(1024)}, []string{sized(1024)}},
		"8192 bytes":             {eight, eight},
		"8 times 1024 bytes":     {slices.Repeat([]string{sized(1024)}, 8), []string{sized(1024)}},
		"64 items of 8192 bytes": {slices.Repeat([]string{sized(128)}, 64), []string{sized(128)}},
	} {
		have, e := Check(c.given...)
		if e != api.OK || !slices.Equal(have, c.want) {
			t.Errorf("%s: %d items, %v", name, len(have), e)
		}
	}
}

// P4.3

func TestFields(t *testing.T) {
	for _, c := range []struct{ given, want []string }{
		{nil, nil},
		{[]string{}, nil},
		{[]string{"A="}, []string{"A"}},
		{[]string{"A=", "B=2", "_X9=\x00"}, []string{"A", "B", "_X9"}},
		{[]string{"A=1", "A=2", "A=3", "B=1", "B=2"}, []string{"A", "B"}},
		{[]string{"A1=x", "A=", "A=1", "AA=", "A_="}, []string{"A", "A1", "AA", "A_"}},
		{[]string{"B=1", "A=1", "B=2", "A=1"}, []string{"A", "B"}},
		{[]string{"A=B=C"}, []string{"A"}},
		{[]string{"B", "A=1", "=1", "a=1"}, []string{"", "A"}},
	} {
		if have := Fields(c.given); !slices.Equal(have, c.want) {
			t.Errorf("Fields of %q: %q", c.given, have)
		}
	}
	permutations([]string{"A1=x", "A=", "A=1", "B=", "_A=\x00", "B="}, func(l []string) {
		if have := Fields(l); !slices.Equal(have, []string{"A", "A1", "B", "_A"}) {
			t.Fatalf("Fields of %q: %q", l, have)
		}
	})
}

func TestHas(t *testing.T) {
	l := []string{"A1=x", "A=", "A=1", "A=10", "A=2", "B=\x00", "_A=z"}
	for n := range len(l) + 1 {
		for i, s := range l {
			if Has(l[:n], s) != (i < n) {
				t.Errorf("Has %q of %q: %v", s, l[:n], i >= n)
			}
		}
		for _, s := range []string{"", "A", "A1", "A1=", "A1=xx", "A=100", "A=3", "B=", "B", "_A=", "a=1", "\xff"} {
			if Has(l[:n], s) {
				t.Errorf("Has %q of %q", s, l[:n])
			}
		}
	}
	if Has(nil, "A=1") || Has(nil, "") || Has([]string{}, "") {
		t.Error("something is among nothing")
	}
}

func TestValue(t *testing.T) {
	l := []string{"A1=x", "A=", "A=1", "AA=y", "B=\x00\xff", "C=a=b", "C=c", "_A=z"}
	for _, c := range []struct {
		field, want string
		ok          bool
	}{
		{"A", "", true}, {"A1", "x", true}, {"AA", "y", true}, {"B", "\x00\xff", true},
		{"C", "a=b", true}, {"_A", "z", true},
		{"", "", false}, {"D", "", false}, {"AAA", "", false}, {"_", "", false}, {"a", "", false},
		{"A=", "", false}, {"C=a", "", false}, {"A=1", "", false},
	} {
		if have, ok := Value(l, c.field); have != c.want || ok != c.ok {
			t.Errorf("Value of %q: %q %v", c.field, have, ok)
		}
	}
}

func TestValueIsTheFirst(t *testing.T) {
	for _, c := range []struct {
		given []string
		want  string
		ok    bool
	}{
		{nil, "", false},
		{[]string{}, "", false},
		{[]string{"B=1", "C=2"}, "", false},
		{[]string{"A=2", "A=1"}, "2", true},
		{[]string{"B=0", "A=3", "A=1", "A=2"}, "3", true},
		{[]string{"A", "=A", "A =7", "A=4", "A=5"}, "4", true},
	} {
		if have, ok := Value(c.given, "A"); have != c.want || ok != c.ok {
			t.Errorf("Value of A of %q: %q %v", c.given, have, ok)
		}
	}
	for _, field := range []string{"", "a", "9", strings.Repeat("A", 65)} {
		if have, ok := Value([]string{field, field + "=1"}, field); ok || have != "" {
			t.Errorf("Value of %q, which is no field: %q %v", field, have, ok)
		}
	}
}

func TestSorted(t *testing.T) {
	for _, c := range []struct{ given, want []string }{
		{nil, nil},
		{[]string{}, nil},
		{[]string{"A=1"}, []string{"A=1"}},
		{[]string{"A1=x", "A=", "A=1", "AA=", "A_="}, []string{"A=", "A=1", "A1=x", "AA=", "A_="}},
		{[]string{"B=2", "A=1", "B=2", "A=1", "B=1"}, []string{"A=1", "B=1", "B=2"}},
		{[]string{"A=1", "b", "", "A", "=1", "b", "A="}, []string{"", "=1", "A", "b", "A=", "A=1"}},
		{[]string{"A=2", "Z", "A=1", "z=1", "9=1"}, []string{"9=1", "Z", "z=1", "A=1", "A=2"}},
	} {
		if have := Sorted(c.given); !slices.Equal(have, c.want) {
			t.Errorf("Sorted of %q: %q", c.given, have)
		}
	}
}

func TestSortedInAllOrders(t *testing.T) {
	permutations([]string{"A1=x", "A=2", "A=1", "A9=", "B=", "b", "A=1"}, func(l []string) {
		if have := Sorted(l); !slices.Equal(have, []string{"b", "A=1", "A=2", "A1=x", "A9=", "B="}) {
			t.Fatalf("Sorted of %q: %q", l, have)
		}
	})
}

// What is handed in, with the room behind it, stays, and is not shared.
func TestGivenListsStay(t *testing.T) {
	for name, do := range map[string]func(l []string) []string{
		"Check":  func(l []string) []string { have, _ := Check(l...); return have },
		"Fields": Fields,
		"Sorted": Sorted,
	} {
		for _, given := range [][]string{{"C=3", "A=1", "C=3", "B=2", "A=1"}, {"A=1", "B=2", "C=3"}, {"A=1"}} {
			room := append(slices.Clone(given), "Y=1", "X=1")
			l := room[:len(given)]
			first := do(l)
			want := slices.Clone(first)
			_ = append(first, "Z=1")
			for i := range first {
				first[i] = "changed"
			}
			if !slices.Equal(room, append(slices.Clone(given), "Y=1", "X=1")) {
				t.Errorf("%s of %q changes it: %q", name, given, room)
			}
			if second := do(l); !slices.Equal(second, want) {
				t.Errorf("%s of %q, once more: %q; want %q", name, given, second, want)
			}
			second := do(l)
			for i := range room {
				room[i] = "changed"
			}
			if !slices.Equal(second, want) {
				t.Errorf("%s of %q changes with it: %q", name, given, second)
			}
		}
	}
}
