package verify

import (
	"encoding/binary"
	"slices"
	"strings"

	"logbook/crc"
	"logbook/head"
	"logbook/item"
	"logbook/mix"
	"logbook/obj"
	"logbook/slot"
)

// stood is an object as it stands in a file.
type stood struct {
	at uint64
	o  obj.Object
}

// slow is a file that is looked over slowly: each question goes through all its objects.
type slow struct {
	b []byte
	h head.Head
	l []stood
}

func (f slow) word(at int) uint64 { return binary.LittleEndian.Uint64(f.b[at:]) }

func (f slow) of(kind int) []stood {
	var l []stood
	for _, x := range f.l {
		if x.o.Kind == kind {
			l = append(l, x)
		}
	}
	return l
}

// lead follows words, as long as there are objects of that kind, and tells the places; false: it ends elsewhere than at 0.
func (f slow) lead(n uint64, kind, word int) ([]uint64, bool) {
	var l []uint64
	for n != 0 && len(l) <= len(f.l) {
		i := slices.IndexFunc(f.l, func(x stood) bool { return x.at == n && x.o.Kind == kind })
		if i < 0 {
			return nil, false
		}
		l = append(l, n)
		n = f.l[i].o.Words[word]
	}
	return l, n == 0
}

func (f slow) just(n uint64, kind, word int, is func(stood) bool) bool {
	var want []uint64
	for _, x := range f.of(kind) {
		if is(x) {
			want = append(want, x.at)
		}
	}
	l, ok := f.lead(n, kind, word)
	return ok && slices.Equal(l, want)
}

func (f slow) tables() bool {
	for _, kind := range []int{obj.Data, obj.Field} {
		at, n := 256, f.h.Data
		if kind == obj.Field {
			at, n = 256+8*f.h.Data, f.h.Fields
		}
		for i := range n {
			if !f.just(f.word(at+8*i), kind, 1, func(x stood) bool { return x.o.Words[0]%uint64(n) == uint64(i) }) {
				return false
			}
		}
		for i, x := range f.of(kind) {
			if x.o.Words[0] != mix.Hash(f.h.Key, x.o.Raw) {
				return false
			}
			for _, y := range f.of(kind)[:i] {
				if string(x.o.Raw) == string(y.o.Raw) {
					return false
				}
			}
		}
	}
	return true
}

func (f slow) fields() bool {
	for _, d := range f.of(obj.Data) {
		name, _, ok := strings.Cut(string(d.o.Raw), "=")
		if !ok || !item.Name(name) || !slices.ContainsFunc(f.of(obj.Field), func(x stood) bool { return string(x.o.Raw) == name }) {
			return false
		}
	}
	for _, x := range f.of(obj.Field) {
		ahead := string(x.o.Raw) + "="
		if !item.Name(string(x.o.Raw)) || x.o.Words[2] == 0 {
			return false
		}
		if !f.just(x.o.Words[2], obj.Data, 2, func(d stood) bool { return strings.HasPrefix(string(d.o.Raw), ahead) }) {
			return false
		}
	}
	return true
}

func (f slow) entries() bool {
	l := f.of(obj.Entry)
	for i, e := range l {
		if i > 0 && e.o.Words[0] <= l[i-1].o.Words[0] {
			return false
		}
		sum, last := uint64(0), ""
		for _, n := range e.o.Items {
			j := slices.IndexFunc(f.l, func(x stood) bool { return x.at == n && x.at < e.at && x.o.Kind == obj.Data })
			if j < 0 || string(f.l[j].o.Raw) <= last {
				return false
			}
			last = string(f.l[j].o.Raw)
			sum ^= mix.Hash(f.h.Key, f.l[j].o.Raw)
		}
		if sum != e.o.Words[4] {
			return false
		}
	}
	return true
}

// list tells how many arrays the list of a root has, if it says just these places.
func (f slow) list(n uint64, places []uint64) (int, bool) {
	arrays, ok := f.lead(n, obj.Array, 0)
	if !ok || !slices.IsSorted(arrays) {
		return 0, false
	}
	// All arrays, one behind the other, as they should be.
	var have []uint64
	size, need := 4, 0
	for _, at := range arrays {
		if len(have) >= len(places) {
			return 0, false
		}
		i := slices.IndexFunc(f.l, func(x stood) bool { return x.at == at })
		if len(f.l[i].o.Items) != size {
			return 0, false
		}
		have = append(have, f.l[i].o.Items...)
		size = min(2*size, 1024)
		need++
	}
	if len(have) < len(places) {
		return 0, false
	}
	want := append(slices.Clone(places), make([]uint64, len(have)-len(places))...)
	return need, slices.Equal(have, want)
}

func (f slow) lists() bool {
	var all []uint64
	for _, e := range f.of(obj.Entry) {
		all = append(all, e.at)
	}
	sum, ok := f.list(f.word(192), all)
	if !ok {
		return false
	}
	for _, d := range f.of(obj.Data) {
		var own []uint64
		for _, e := range f.of(obj.Entry) {
			if slices.Contains(e.o.Items, d.at) {
				own = append(own, e.at)
			}
		}
		if len(own) == 0 || own[0] != d.o.Words[3] {
			return false
		}
		n, ok := f.list(d.o.Words[4], own[1:])
		if !ok {
			return false
		}
		sum += n
	}
	return sum == len(f.of(obj.Array))
}

// slowCheck is the chapter, done slowly.
func slowCheck(b []byte) (Report, bool) {
	t := crc.Make()
	h, isHead := head.Decode(t, b)
	s, isSlot := slot.Choose(t, b)
	from := 256 + 8*h.Data + 8*h.Fields
	if !isHead || !isSlot || s.Tail < uint64(from) || s.Tail > uint64(len(b)) {
		return Report{}, false
	}
	f := slow{b: b, h: h}
	at := from
	for at < int(s.Tail) {
		o, end, ok := obj.Decode(b[:s.Tail], at)
		if !ok {
			return Report{}, false
		}
		f.l = append(f.l, stood{uint64(at), o})
		at = end
	}
	if !f.tables() || !f.fields() || !f.entries() || !f.lists() {
		return Report{}, false
	}
	r := Report{Data: len(f.of(1)), Fields: len(f.of(2)), Entries: len(f.of(3)), Arrays: len(f.of(4)), State: s.State}
	if l := f.of(3); len(l) > 0 {
		r.First, r.Last = l[0].o.Words[0], l[len(l)-1].o.Words[0]
	}
	return r, s.Count == uint64(r.Entries) && s.First == r.First && s.Last == r.Last
}
