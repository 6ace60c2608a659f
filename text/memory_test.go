package text_test

import (
	"slices"
	"strings"
	"testing"

	"ropery/api"
	"ropery/text"
)

// roomy returns a copy of l whose spare capacity is filled, so that a write to it shows.
func roomy[T any](l []T, with T) []T {
	return append(slices.Clone(l), with, with, with)[:len(l)]
}

func roomyEntry(x api.Entry) api.Entry {
	return api.Entry{
		Deed:  api.Deed{Ops: roomy(x.Deed.Ops, set("spare", 11))},
		IsMap: x.IsMap,
		Map:   api.Map{Cuts: roomy(x.Map.Cuts, "spare"), Owners: roomy(x.Map.Owners, 12)},
	}
}

// whole returns l with its spare capacity.
func whole[T any](l []T) []T { return l[:cap(l)] }

// wholeEntry returns x with the spare capacity of its lists.
func wholeEntry(x api.Entry) api.Entry {
	return api.Entry{
		Deed:  api.Deed{Ops: whole(x.Deed.Ops)},
		IsMap: x.IsMap,
		Map:   api.Map{Cuts: whole(x.Map.Cuts), Owners: whole(x.Map.Owners)},
	}
}

// spoil overwrites l and its spare capacity.
func spoil[T any](l []T, with T) {
	l = whole(l)
	for i := range l {
		l[i] = with
	}
}

func spoilEntry(x api.Entry) {
	spoil(x.Deed.Ops, set("spoilt", -77))
	spoil(x.Map.Cuts, "spoilt")
	spoil(x.Map.Owners, -77)
}

// aliases tells whether two lists share memory, with their spare capacity.
func aliases[T any](a, b []T) bool {
	a, b = whole(a), whole(b)
	for i := range a {
		for j := range b {
			if &a[i] == &b[j] {
				return true
			}
		}
	}
	return false
}

func aliasesEntry(a, b api.Entry) bool {
	return aliases(a.Deed.Ops, b.Deed.Ops) || aliases(a.Map.Cuts, b.Map.Cuts) || aliases(a.Map.Owners, b.Map.Owners)
}

// memoryEntries are valid and other entries, with both fields set in some.
func memoryEntries() []api.Entry {
	l := []api.Entry{
		{},
		{IsMap: true},
		{Deed: ops(set("a", 1)), Map: mapOf(0, "m", 1)},
		{Deed: ops(set("a", 1)), Map: mapOf(0, "m", 1), IsMap: true},
		{Deed: ops(api.Op{Kind: api.Copy, Key: "a", From: "b", N: 9}, api.Op{Kind: api.Set, Key: "a", From: "b"})},
	}
	for _, c := range entryCases() {
		l = append(l, c.x)
	}
	for _, c := range badDeeds() {
		l = append(l, api.Entry{Deed: c.d})
	}
	for _, c := range badMaps() {
		l = append(l, api.Entry{IsMap: true, Map: c.m})
	}
	return l
}

func TestP2WritersLeaveArguments(t *testing.T) {
	for _, x := range memoryEntries() {
		arg, before := roomyEntry(x), roomyEntry(x)
		s, e := text.Entry(arg)
		d, f := text.Deed(arg.Deed)
		m, g := text.Map(arg.Map)
		if !equalEntry(wholeEntry(arg), wholeEntry(before)) {
			t.Errorf("an argument was changed: %v", x)
		}
		spoilEntry(arg)
		againS, againE := text.Entry(x)
		againD, againF := text.Deed(x.Deed)
		againM, againG := text.Map(x.Map)
		if s != againS || e != againE || d != againD || f != againF || m != againM || g != againG {
			t.Errorf("two calls for %v have different results", x)
		}
	}
}

func TestP2ReadersReturnNewMemory(t *testing.T) {
	for _, c := range entryCases() {
		first, n, e := text.ReadEntry(line(c.body))
		second, k, f := text.ReadEntry(line(c.body))
		if !equalEntry(first, second) || n != k || e != f || aliasesEntry(first, second) {
			t.Errorf("ReadEntry(%q): two calls have different results or share memory", c.body)
		}
		spoilEntry(first)
		if !equalEntry(second, c.x) {
			t.Errorf("ReadEntry(%q): a result changed with another one", c.body)
		}
	}
	for _, c := range deedCases() {
		first, _ := text.ReadDeed(c.s)
		second, _ := text.ReadDeed(c.s)
		spoil(first.Ops, set("spoilt", -77))
		if !equalDeed(second, c.d) || aliases(first.Ops, second.Ops) {
			t.Errorf("ReadDeed(%q): two results share memory", c.s)
		}
	}
	for _, c := range mapCases() {
		first, _ := text.ReadMap(c.s)
		second, _ := text.ReadMap(c.s)
		spoilEntry(api.Entry{Map: first})
		if !equalMap(second, c.m) || aliasesEntry(api.Entry{Map: first}, api.Entry{Map: second}) {
			t.Errorf("ReadMap(%q): two results share memory", c.s)
		}
	}
}

func TestP2LogReturnsNewMemory(t *testing.T) {
	var s strings.Builder
	for _, c := range entryCases() {
		s.WriteString(line(c.body) + line(c.body))
	}
	first, _, _ := text.Log(s.String())
	second, _, _ := text.Log(s.String())
	if len(first) == 0 || aliases(first, second) {
		t.Error("two results share memory")
	}
	for i := range first {
		for j := range first {
			if i != j && aliasesEntry(first[i], first[j]) {
				t.Errorf("the entries %d and %d share memory", i, j)
			}
			if aliasesEntry(first[i], second[j]) {
				t.Errorf("the entries %d and %d of two results share memory", i, j)
			}
		}
	}
	for _, x := range first {
		spoilEntry(x)
	}
	spoil(first, mapEntry(-77))
	if third, _, _ := text.Log(s.String()); !equalEntries(second, third) {
		t.Error("a result changed with another one")
	}
}

func TestP2EmptyAndNilAreTheSame(t *testing.T) {
	for _, l := range [][2]api.Entry{
		{{}, {Deed: api.Deed{Ops: []api.Op{}}}},
		{{IsMap: true}, {IsMap: true, Map: api.Map{Cuts: []string{}, Owners: []int{}}}},
		{{IsMap: true, Map: api.Map{Owners: []int{2}}}, {IsMap: true, Map: api.Map{Cuts: []string{}, Owners: []int{2}}}},
	} {
		a, e := text.Entry(l[0])
		b, f := text.Entry(l[1])
		if a != b || e != f {
			t.Errorf("%q, %d for nil, %q, %d for an empty slice", a, e, b, f)
		}
	}
}

func TestP1NoPanic(t *testing.T) {
	f := fixed(1)
	all := []string{"", "\n", " \n", "map \n", "\x00", "\xff\n", strings.Repeat(";", 100000), strings.Repeat(":", 100000), strings.Repeat(" \n", 100000), strings.Repeat("9", 100000)}
	for range 20000 {
		b := make([]byte, f.below(12))
		for i := range b {
			b[i] = byte(f.below(256))
		}
		all = append(all, string(b))
	}
	for _, s := range all {
		text.ReadDeed(s)
		text.ReadMap(s)
		text.Sum(s)
		text.ReadEntry(s)
		text.ReadEntry(s + "\n")
		text.Log(s)
		text.Deed(ops(api.Op{Kind: len(s) % 7, Key: s, From: s, N: f.below(1 << 30)}))
		text.Map(mapOf(0, s, 1))
		text.Entry(deedEntry(set(s, 1)))
		text.Entry(mapEntry(0, s, 1))
	}
}
