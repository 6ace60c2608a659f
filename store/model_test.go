package store_test

import (
	"maps"
	"math"
	"slices"
	"strings"
	"testing"

	"ropery/api"
	"ropery/store"
)

// fixed is a sequence of numbers that is the same in every run.
type fixed uint64

func (f *fixed) below(n int) int {
	*f = *f*6364136223846793005 + 1442695040888963407
	return int((uint64(*f) >> 33) % uint64(n))
}

// listOf returns the store that holds a map's keys.
func listOf(m map[string]int) []api.Pair {
	var l []api.Pair
	for _, key := range slices.Sorted(maps.Keys(m)) {
		l = append(l, api.Pair{Key: key, Value: m[key]})
	}
	return l
}

func (f *fixed) key() string {
	b := make([]byte, 1+f.below(3))
	for i := range b {
		b[i] = byte('a' + f.below(3))
	}
	return string(b)
}

// Puts in sequence agree with a map from keys to values after every step.
func TestP5P6P9AgreeWithAMap(t *testing.T) {
	f := fixed(1)
	var l []api.Pair
	model := map[string]int{}
	for step := range 3000 {
		key, n := f.key(), f.below(7)-3
		if n == 0 {
			delete(model, key)
		} else {
			model[key] = n
		}
		next, e := store.Put(l, key, n)
		if want := listOf(model); !slices.Equal(next, want) || e != api.OK || store.Check(next) != api.OK {
			t.Fatalf("step %d: Put(%v, %q, %d) = %v, %d, want %v", step, l, key, n, next, e, want)
		}
		l = next
		other := f.key()
		if got, e := store.Get(l, other); got != model[other] || e != api.OK {
			t.Fatalf("step %d: Get(%v, %q) = %d, %d, want %d", step, l, other, got, e, model[other])
		}
		sum := 0
		for _, n := range model {
			sum += n
		}
		if got, e := store.Total(l); got != sum || e != api.OK {
			t.Fatalf("step %d: Total(%v) = %d, %d, want %d", step, l, got, e, sum)
		}
	}
}

// A store that is cut in two at any bound is joined again.
func TestP7P8ScansJoinToTheWhole(t *testing.T) {
	f := fixed(2)
	for range 1000 {
		model := map[string]int{}
		for range f.below(12) {
			model[f.key()] = 1 + f.below(9)
		}
		l, at := listOf(model), f.key()
		low, e := store.Scan(l, "", at)
		high, g := store.Scan(l, at, "")
		both, h := store.Join(high, low)
		if !slices.Equal(both, l) || e != api.OK || g != api.OK || h != api.OK {
			t.Fatalf("%v cut at %q: %v and %v, joined %v (%d, %d, %d)", l, at, low, high, both, e, g, h)
		}
	}
}

// Two stores are spread at random over the same few keys.
func TestP8AgreesWithMaps(t *testing.T) {
	f := fixed(3)
	for range 2000 {
		a, b, common := map[string]int{}, map[string]int{}, false
		for range f.below(6) {
			a[f.key()] = 1 + f.below(9)
		}
		for range f.below(6) {
			b[f.key()] = -1 - f.below(9)
		}
		union := maps.Clone(a)
		for key, n := range b {
			_, there := a[key]
			common = common || there
			union[key] = n
		}
		got, e := store.Join(listOf(a), listOf(b))
		if common && (len(got) != 0 || e != api.ErrThere) {
			t.Fatalf("Join(%v, %v) = %v, %d, want ErrThere", a, b, got, e)
		}
		if !common && (!slices.Equal(got, listOf(union)) || e != api.OK) {
			t.Fatalf("Join(%v, %v) = %v, %d, want %v", a, b, got, e, union)
		}
	}
}

// P1: odd arguments of every kind, in every combination, end in a return.
func TestP1NoPanic(t *testing.T) {
	lists := [][]api.Pair{nil, {}, make([]api.Pair, 3), pairs("a", 1, "b", 2)}
	for _, bad := range badStores() {
		lists = append(lists, bad.l)
	}
	words := []string{"", "a", "b", "zz", "A", "\x00", "\xff\xfe", "é", strings.Repeat("z", 1<<16)}
	numbers := []int{0, 1, -1, math.MaxInt, math.MinInt}
	for _, s := range words {
		store.Key(s)
	}
	for _, n := range numbers {
		store.Value(n)
	}
	for _, l := range lists {
		store.Check(l)
		store.Total(l)
		for _, k := range lists {
			store.Join(l, k)
		}
		for _, s := range words {
			store.Get(l, s)
			for _, n := range numbers {
				store.Put(l, s, n)
			}
			for _, to := range words {
				store.Scan(l, s, to)
			}
		}
	}
}
