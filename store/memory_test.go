package store_test

import (
	"slices"
	"strconv"
	"testing"

	"ropery/api"
	"ropery/store"
)

// roomy returns a copy of l whose spare capacity is filled, so that a write to it shows.
func roomy(l []api.Pair) []api.Pair {
	full := append(slices.Clone(l), pairs("spare", 11, "space", 12, "fill", 13)...)
	return full[:len(l)]
}

// whole returns l with its spare capacity.
func whole(l []api.Pair) []api.Pair { return l[:cap(l)] }

// spoil overwrites l and its spare capacity.
func spoil(l []api.Pair) {
	l = whole(l)
	for i := range l {
		l[i] = api.Pair{Key: "spoilt", Value: -77}
	}
}

// stores are arguments of all sizes, with and without pairs at the ends.
func stores() [][]api.Pair {
	return [][]api.Pair{nil, {}, pairs("b", 1), pairs("d", 2), pairs("b", 1, "d", 2), pairs("a", 1, "c", 3, "e", 5)}
}

// calls are the functions with lists as results, for one list as argument.
func calls() map[string]func(l []api.Pair) []api.Pair {
	calls := map[string]func(l []api.Pair) []api.Pair{
		"Join nil behind": func(l []api.Pair) []api.Pair { r, _ := store.Join(l, nil); return r },
		"Join nil before": func(l []api.Pair) []api.Pair { r, _ := store.Join(nil, l); return r },
		"Join itself":     func(l []api.Pair) []api.Pair { r, _ := store.Join(l, l); return r },
	}
	for _, key := range []string{"a", "b", "c", "d", "f", ""} {
		for _, n := range []int{0, 1, 2, api.MaxValue + 1} {
			calls["Put "+key+" "+strconv.Itoa(n)] = func(l []api.Pair) []api.Pair { r, _ := store.Put(l, key, n); return r }
		}
		for _, to := range []string{"", "a", "c", "z"} {
			calls["Scan "+key+" "+to] = func(l []api.Pair) []api.Pair { r, _ := store.Scan(l, key, to); return r }
		}
	}
	return calls
}

func TestP2ArgumentsStayAndResultsAreNew(t *testing.T) {
	for name, call := range calls() {
		for _, l := range stores() {
			arg := roomy(l)
			before := slices.Clone(whole(arg))
			first, second := call(arg), call(arg)
			if !slices.Equal(whole(arg), before) {
				t.Errorf("%s changed its argument %v to %v", name, before, whole(arg))
			}
			kept := slices.Clone(second)
			spoil(first)
			if !slices.Equal(whole(arg), before) {
				t.Errorf("%s: the result shares memory with the argument %v", name, before)
			}
			if !slices.Equal(second, kept) {
				t.Errorf("%s: two results share memory for %v", name, before)
			}
			spoil(arg)
			if !slices.Equal(second, kept) {
				t.Errorf("%s: the result changed with the argument %v", name, before)
			}
		}
	}
}

func TestP2JoinOfTwo(t *testing.T) {
	for _, l := range stores() {
		for _, k := range stores() {
			a, b := roomy(l), roomy(k)
			beforeA, beforeB := slices.Clone(whole(a)), slices.Clone(whole(b))
			both, _ := store.Join(a, b)
			spoil(both)
			if !slices.Equal(whole(a), beforeA) || !slices.Equal(whole(b), beforeB) {
				t.Errorf("Join(%v, %v) changed an argument or shares memory with it", l, k)
			}
		}
	}
}

func TestP2ReadersLeaveArguments(t *testing.T) {
	for _, l := range append(stores(), pairs("b", 1, "a", 0), pairs("A", 1)) {
		arg := roomy(l)
		before := slices.Clone(whole(arg))
		store.Check(arg)
		store.Get(arg, "b")
		store.Total(arg)
		if !slices.Equal(whole(arg), before) {
			t.Errorf("the argument %v was changed to %v", before, whole(arg))
		}
	}
}

func TestP2EmptyAndNilAreTheSame(t *testing.T) {
	for name, call := range calls() {
		if a, b := call(nil), call([]api.Pair{}); !slices.Equal(a, b) {
			t.Errorf("%s: %v for nil, %v for an empty slice", name, a, b)
		}
	}
}
