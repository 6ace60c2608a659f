package merge_test

import (
	"slices"
	"testing"

	"ropery/api"
)

// roomy returns a copy of l whose spare capacity is filled, so that a write to it shows.
func roomy[T any](l []T, with T) []T {
	return append(slices.Clone(l), with, with, with)[:len(l)]
}

func roomyEntry(x api.Entry) api.Entry {
	return api.Entry{
		Deed:  api.Deed{Ops: roomy(x.Deed.Ops, set("spare", 11))},
		IsMap: x.IsMap,
		Map:   api.Map{Cuts: roomy(x.Map.Cuts, "spare"), Owners: roomy(x.Map.Owners, 12)},
	}
}

// whole returns l with its spare capacity.
func whole[T any](l []T) []T { return l[:cap(l)] }

// wholeEntry returns x with the spare capacity of its lists.
func wholeEntry(x api.Entry) api.Entry {
	return api.Entry{
		Deed:  api.Deed{Ops: whole(x.Deed.Ops)},
		IsMap: x.IsMap,
		Map:   api.Map{Cuts: whole(x.Map.Cuts), Owners: whole(x.Map.Owners)},
	}
}

// spoil overwrites l and its spare capacity.
func spoil[T any](l []T, with T) {
	l = whole(l)
	for i := range l {
		l[i] = with
	}
}

func spoilEntry(x api.Entry) {
	spoil(x.Deed.Ops, set("spoilt", -77))
	spoil(x.Map.Cuts, "spoilt")
	spoil(x.Map.Owners, -77)
}

func spoilLog(l []api.Entry) {
	for _, x := range l {
		spoilEntry(x)
	}
	spoil(l, mapEntry(-77))
}

// aliases tells whether two lists share memory, with their spare capacity.
func aliases[T any](a, b []T) bool {
	a, b = whole(a), whole(b)
	for i := range a {
		for j := range b {
			if &a[i] == &b[j] {
				return true
			}
		}
	}
	return false
}

func aliasesEntry(a, b api.Entry) bool {
	return aliases(a.Deed.Ops, b.Deed.Ops) || aliases(a.Map.Cuts, b.Map.Cuts) || aliases(a.Map.Owners, b.Map.Owners)
}

func TestP2AddLeavesArguments(t *testing.T) {
	var all []api.Entry
	for _, x := range kinds() {
		all = append(all, x[0])
	}
	for _, bad := range badEntries() {
		all = append(all, bad.x)
	}
	m := merging(t, 2)
	for _, x := range all {
		arg, before := roomyEntry(x), roomyEntry(x)
		m.Add(0, arg)
		m.Add(2, arg)
		m.Close(0)
		m.Close(1)
		spoilLog(m.Log())
		if !equalEntry(wholeEntry(arg), wholeEntry(before)) {
			t.Errorf("Add changed its argument %v", x)
		}
	}
}

// Arguments are overwritten after Add, and the log stays as it is.
func TestP2AddKeepsNoArgument(t *testing.T) {
	m := merging(t, 2)
	var want []api.Entry
	for _, x := range kinds() {
		arg := roomyEntry(x[0])
		adds(t, m, 0, arg)
		spoilEntry(arg)
		want = append(want, x[1])
	}
	closes(t, m, 0, 1)
	closes(t, m, 1, 1)
	has(t, m, 1, []int{0, 1}, want...)
}

// One argument that is added twice is two entries.
func TestP2EntriesAreApart(t *testing.T) {
	for _, x := range kinds() {
		m := merging(t, 2)
		adds(t, m, 0, x[0], x[0])
		adds(t, m, 1, x[0])
		closes(t, m, 0, 1)
		closes(t, m, 1, 1)
		log := m.Log()
		for i := range log {
			if aliasesEntry(log[i], x[0]) {
				t.Errorf("the entry %d shares memory with the argument %v", i, x[0])
			}
			for j := range i {
				if aliasesEntry(log[i], log[j]) {
					t.Errorf("the entries %d and %d of %v share memory", i, j, x[0])
				}
			}
		}
	}
}

// Results are overwritten, and neither the state nor another result changes.
func TestP2ResultsAreNew(t *testing.T) {
	m := merging(t, 3)
	var want []api.Entry
	for _, x := range kinds() {
		adds(t, m, 1, x[0])
		want = append(want, x[1])
	}
	for i := range 3 {
		closes(t, m, i, 1)
	}
	closes(t, m, 1, 2)
	first, second := m.Log(), m.Log()
	waits, others := m.Waits(), m.Waits()
	if aliases(first, second) || aliases(waits, others) {
		t.Error("two results share memory")
	}
	for i := range first {
		if aliasesEntry(first[i], second[i]) {
			t.Errorf("two results share the memory of entry %d", i)
		}
	}
	spoilLog(first)
	spoil(waits, -77)
	if !equalEntries(second, want) || !slices.Equal(others, []int{0, 2}) {
		t.Errorf("a result changed with another one: %v, %v", second, others)
	}
	has(t, m, 1, []int{0, 2}, want...)
}

// What was returned stays as it is when the state changes.
func TestP2ResultsStay(t *testing.T) {
	m := merging(t, 2)
	adds(t, m, 0, entries(1, 2, 3)...)
	closes(t, m, 0, 1)
	closes(t, m, 1, 1)
	log, waits := m.Log(), m.Waits()
	adds(t, m, 0, entries(4)...)
	adds(t, m, 1, entries(5)...)
	closes(t, m, 0, 2)
	closes(t, m, 1, 2)
	m.Log()
	closes(t, m, 0, 3)
	m.Waits()
	if !equalEntries(log, entries(1, 2, 3)) || !slices.Equal(waits, []int{0, 1}) {
		t.Errorf("results changed with the state: %v, %v", log, waits)
	}
}

// Two Merges go their own ways.
func TestP2StatesAreApart(t *testing.T) {
	m, other := merging(t, 2), merging(t, 2)
	adds(t, m, 0, entries(1)...)
	closes(t, m, 0, 1)
	closes(t, m, 1, 1)
	closes(t, m, 1, 2)
	has(t, other, 0, []int{0, 1})
	adds(t, other, 1, entries(2)...)
	closes(t, other, 0, 1)
	closes(t, other, 1, 1)
	has(t, other, 1, []int{0, 1}, entries(2)...)
	has(t, m, 1, []int{0}, entries(1)...)
}

// Calls that only ask change nothing.
func TestP2AskingChangesNothing(t *testing.T) {
	m := merging(t, 2)
	adds(t, m, 1, entries(1, 2)...)
	closes(t, m, 1, 1)
	for range 70 {
		has(t, m, 0, []int{0})
	}
	closes(t, m, 0, 1)
	for range 70 {
		has(t, m, 1, []int{0, 1}, entries(1, 2)...)
	}
}

func TestP2EmptyAndNilAreTheSame(t *testing.T) {
	for _, cuts := range [][]string{nil, {}} {
		for _, none := range [][]api.Op{nil, {}} {
			m := merging(t, 1)
			adds(t, m, 0, api.Entry{IsMap: true, Deed: api.Deed{Ops: none}, Map: api.Map{Cuts: cuts, Owners: []int{1}}})
			adds(t, m, 0, api.Entry{Deed: ops(set("a", 1)), Map: api.Map{Cuts: cuts}})
			closes(t, m, 0, 1)
			has(t, m, 1, []int{0}, mapEntry(1), entry(1))
		}
	}
	for _, x := range []api.Entry{{}, {Deed: api.Deed{Ops: []api.Op{}}}} {
		if e := merging(t, 1).Add(0, x); e != api.ErrLarge {
			t.Errorf("Add(0, %v) = %d, want ErrLarge", x, e)
		}
	}
	for _, x := range []api.Entry{{IsMap: true}, {IsMap: true, Map: api.Map{Cuts: []string{}, Owners: []int{}}}} {
		if e := merging(t, 1).Add(0, x); e != api.ErrForm {
			t.Errorf("Add(0, %v) = %d, want ErrForm", x, e)
		}
	}
}
