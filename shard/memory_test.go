package shard_test

import (
	"slices"
	"strconv"
	"testing"

	"ropery/api"
	"ropery/shard"
)

// roomy returns a copy of l whose spare capacity is filled, so that a write to it shows.
func roomy[T any](l []T, with T) []T {
	return append(slices.Clone(l), with, with, with)[:len(l)]
}

func roomyMap(m api.Map) api.Map {
	return api.Map{Cuts: roomy(m.Cuts, "spare"), Owners: roomy(m.Owners, 11)}
}

func roomyPairs(l []api.Pair) []api.Pair { return roomy(l, api.Pair{Key: "spare", Value: 12}) }

// whole returns l with its spare capacity.
func whole[T any](l []T) []T { return l[:cap(l)] }

// wholeMap returns m with the spare capacity of its lists.
func wholeMap(m api.Map) api.Map { return api.Map{Cuts: whole(m.Cuts), Owners: whole(m.Owners)} }

// spoil overwrites l and its spare capacity.
func spoil[T any](l []T, with T) {
	l = whole(l)
	for i := range l {
		l[i] = with
	}
}

func spoilMap(m api.Map) {
	spoil(m.Cuts, "spoilt")
	spoil(m.Owners, -77)
}

// aliases tells whether two lists share memory, with their spare capacity.
func aliases[T any](a, b []T) bool {
	a, b = whole(a), whole(b)
	for i := range a {
		for j := range b {
			if &a[i] == &b[j] {
				return true
			}
		}
	}
	return false
}

func aliasesMap(a, b api.Map) bool { return aliases(a.Cuts, b.Cuts) || aliases(a.Owners, b.Owners) }

// memoryMaps are maps with and without a result.
func memoryMaps() []api.Map {
	return append(goodMaps(), mapOf(0, 1), mapOf(0, "A", 1), mapOf(4), wide(13))
}

// calls are the functions with a map as result.
func calls() map[string]func(m api.Map) (api.Map, api.Errno) {
	calls := map[string]func(m api.Map) (api.Map, api.Errno){"Plain": shard.Plain}
	for _, key := range []string{"a", "b", "c", "f", "m", "zz", ""} {
		calls["Cut "+key] = func(m api.Map) (api.Map, api.Errno) { return shard.Cut(m, key) }
	}
	for i := range 4 {
		calls["Give "+strconv.Itoa(i)] = func(m api.Map) (api.Map, api.Errno) { return shard.Give(m, i, 3-i) }
	}
	return calls
}

func TestP2MapsStayAndResultsAreNew(t *testing.T) {
	for name, call := range calls() {
		for _, m := range memoryMaps() {
			arg, before := roomyMap(m), roomyMap(m)
			first, e := call(arg)
			second, f := call(arg)
			if !equal(first, second) || e != f {
				t.Errorf("%s of %v: two calls have different results", name, m)
			}
			if aliasesMap(first, arg) || aliasesMap(first, second) {
				t.Errorf("%s of %v: a result shares memory", name, m)
			}
			spoilMap(first)
			if !equal(wholeMap(arg), wholeMap(before)) {
				t.Errorf("%s of %v changed its argument or shares memory with it", name, m)
			}
			spoilMap(arg)
			if again, _ := call(m); !equal(second, again) {
				t.Errorf("%s of %v: a result changed with another one or with the argument", name, m)
			}
		}
	}
}

func TestP2PartLeavesArgumentsAndReturnsNewMemory(t *testing.T) {
	for _, m := range memoryMaps() {
		for _, l := range [][]api.Pair{nil, {}, pairs("a", 1), pairs("a", 1, "b", 2, "n", 3), pairs("A", 1)} {
			for _, owner := range []int{0, 1, 2, 3, 4} {
				argM, beforeM, argL, beforeL := roomyMap(m), roomyMap(m), roomyPairs(l), roomyPairs(l)
				first, e := shard.Part(argM, argL, owner)
				second, f := shard.Part(argM, argL, owner)
				if !slices.Equal(first, second) || e != f || aliases(first, second) || aliases(first, argL) {
					t.Errorf("Part(%v, %v, %d): two calls have different results or share memory", m, l, owner)
				}
				spoil(first, api.Pair{Key: "spoilt", Value: -77})
				if !equal(wholeMap(argM), wholeMap(beforeM)) || !slices.Equal(whole(argL), whole(beforeL)) {
					t.Errorf("Part(%v, %v, %d) changed an argument or shares memory with it", m, l, owner)
				}
				spoilMap(argM)
				spoil(argL, api.Pair{Key: "spoilt", Value: -77})
				if again, _ := shard.Part(m, l, owner); !slices.Equal(second, again) {
					t.Errorf("Part(%v, %v, %d): a result changed with another one or with an argument", m, l, owner)
				}
			}
		}
	}
}

func TestP2ReadersLeaveArguments(t *testing.T) {
	for _, m := range memoryMaps() {
		for _, k := range memoryMaps() {
			a, b, beforeA, beforeB := roomyMap(m), roomyMap(k), roomyMap(m), roomyMap(k)
			shard.Check(a)
			shard.Find(a, "b")
			shard.Find(a, "")
			shard.Same(a, b)
			if !equal(wholeMap(a), wholeMap(beforeA)) || !equal(wholeMap(b), wholeMap(beforeB)) {
				t.Errorf("an argument was changed: %v or %v", m, k)
			}
		}
	}
}

func TestP2EmptyAndNilAreTheSame(t *testing.T) {
	for name, call := range calls() {
		a, e := call(api.Map{Owners: []int{1}})
		b, f := call(api.Map{Cuts: []string{}, Owners: []int{1}})
		if !equal(a, b) || e != f {
			t.Errorf("%s: %v, %d for nil, %v, %d for an empty slice", name, a, e, b, f)
		}
	}
	if is, e := shard.Same(api.Map{Owners: []int{1}}, api.Map{Cuts: []string{}, Owners: []int{1}}); !is || e != api.OK {
		t.Error("Same of nil and an empty slice:", is, e)
	}
	for owner := range api.MaxOwners {
		a, e := shard.Part(mapOf(1), nil, owner)
		b, f := shard.Part(mapOf(1), []api.Pair{}, owner)
		if !slices.Equal(a, b) || e != f {
			t.Errorf("Part of nil: %v, %d, of an empty slice: %v, %d", a, e, b, f)
		}
	}
}
