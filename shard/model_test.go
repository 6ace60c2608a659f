package shard_test

import (
	"math"
	"math/bits"
	"slices"
	"strings"
	"testing"

	"ropery/api"
	"ropery/shard"
	"ropery/store"
)

// fixed is a sequence of numbers that is the same in every run.
type fixed uint64

func (f *fixed) below(n int) int {
	*f = *f*6364136223846793005 + 1442695040888963407
	return int((uint64(*f) >> 33) % uint64(n))
}

// allKeys returns all keys of at most three letters from a to c, in order.
func allKeys() []string {
	l := []string{"a", "b", "c"}
	for i := 0; len(l) < 39; i++ {
		l = append(l, l[i]+"a", l[i]+"b", l[i]+"c")
	}
	slices.Sort(l)
	return l
}

// cutMap is a map with at most n cuts and the owners below owners.
func (f *fixed) cutMap(n, owners int) api.Map {
	keys := allKeys()
	var m api.Map
	for range f.below(n + 1) {
		m.Cuts = append(m.Cuts, keys[f.below(len(keys))])
	}
	slices.Sort(m.Cuts)
	m.Cuts = slices.Compact(m.Cuts)
	for range len(m.Cuts) + 1 {
		m.Owners = append(m.Owners, f.below(owners))
	}
	return m
}

// pairsOf is a store on some of all keys.
func (f *fixed) pairsOf() []api.Pair {
	var l []api.Pair
	for _, key := range allKeys() {
		if n := f.below(7) - 3; n != 0 {
			l = append(l, api.Pair{Key: key, Value: n})
		}
	}
	return l
}

// ownerOf returns the owner of any string: that of the last cut which is not
// above it, or the first owner.
func ownerOf(m api.Map, key string) int {
	owner := m.Owners[0]
	for i, cut := range m.Cuts {
		if strings.Compare(cut, key) <= 0 {
			owner = m.Owners[i+1]
		}
	}
	return owner
}

// alike tells whether two maps give every string the same owner. Owners only
// change at cuts, so that the cuts and the string below all of them suffice.
func alike(a, b api.Map) bool {
	for _, key := range slices.Concat([]string{""}, a.Cuts, b.Cuts) {
		if ownerOf(a, key) != ownerOf(b, key) {
			return false
		}
	}
	return true
}

func TestP23FindAgreesWithAModel(t *testing.T) {
	f := fixed(1)
	for range 500 {
		m := f.cutMap(12, 4)
		for _, key := range allKeys() {
			if got, e := shard.Find(m, key); got != ownerOf(m, key) || e != api.OK {
				t.Fatalf("Find(%v, %q) = %d, %d, want %d", m, key, got, e, ownerOf(m, key))
			}
		}
	}
}

// Of all results of Cut: the old cuts and the new one, and no other owner.
func TestP24CutAtEveryKey(t *testing.T) {
	f := fixed(2)
	counts := map[api.Errno]int{}
	for range 200 {
		m := f.cutMap(20, 4)
		if len(m.Cuts) > api.MaxCuts {
			m.Cuts, m.Owners = m.Cuts[:12], m.Owners[:13]
		}
		for _, key := range allKeys() {
			want := api.OK
			if len(m.Cuts) == api.MaxCuts {
				want = api.ErrLarge
			}
			if slices.Contains(m.Cuts, key) {
				want = api.ErrThere
			}
			got, e := shard.Cut(m, key)
			counts[e]++
			if e != want || (e != api.OK && !empty(got)) {
				t.Fatalf("Cut(%v, %q) = %v, %d, want %d", m, key, got, e, want)
			}
			if e != api.OK {
				continue
			}
			cuts := append(slices.Clone(m.Cuts), key)
			slices.Sort(cuts)
			if shard.Check(got) != api.OK || !slices.Equal(got.Cuts, cuts) || !alike(got, m) {
				t.Fatalf("Cut(%v, %q) = %v", m, key, got)
			}
			if is, e := shard.Same(got, m); !is || e != api.OK {
				t.Fatalf("Same(%v, %v) = %v, %d", got, m, is, e)
			}
		}
	}
	if counts[api.OK] < 500 || counts[api.ErrThere] < 500 || counts[api.ErrLarge] < 500 {
		t.Error("the maps are too much alike:", counts)
	}
}

// A cut at both ends of a range and a new owner in between: only the keys of
// this range have a new owner.
func TestP24P25CutAndGiveMoveARange(t *testing.T) {
	f := fixed(3)
	keys := allKeys()
	for range 500 {
		m := f.cutMap(8, 4)
		from, to := f.below(len(keys)), f.below(len(keys))
		if from > to {
			from, to = to, from
		}
		low, e := shard.Cut(m, keys[from])
		if e == api.ErrThere {
			low = m
		}
		high, e := shard.Cut(low, keys[to])
		if e == api.ErrThere {
			high = low
		}
		owner, got := f.below(4), high
		for i := slices.Index(high.Cuts, keys[from]); i < slices.Index(high.Cuts, keys[to]); i++ {
			got, _ = shard.Give(got, i+1, owner)
		}
		for i, key := range keys {
			want := ownerOf(m, key)
			if i >= from && i < to {
				want = owner
			}
			if n, e := shard.Find(got, key); n != want || e != api.OK {
				t.Fatalf("%v from %q to %q given to %d: Find(%v, %q) = %d, %d, want %d", m, keys[from], keys[to], owner, got, key, n, e, want)
			}
		}
	}
}

// smallest returns the equivalent map with the fewest of the cuts, found by
// trying all subsets.
func smallest(m api.Map) api.Map {
	best := m
	for set := range uint(1) << len(m.Cuts) {
		x := api.Map{Owners: []int{m.Owners[0]}}
		for i, cut := range m.Cuts {
			if set>>i&1 == 1 {
				x.Cuts = append(x.Cuts, cut)
				x.Owners = append(x.Owners, m.Owners[i+1])
			}
		}
		if bits.OnesCount(set) < len(best.Cuts) && alike(x, m) {
			best = x
		}
	}
	return best
}

func TestP26PlainIsTheSmallest(t *testing.T) {
	f := fixed(4)
	removed := map[int]int{}
	for range 500 {
		m := f.cutMap(8, 1+f.below(4))
		got, e := shard.Plain(m)
		if want := smallest(m); !equal(got, want) || e != api.OK {
			t.Fatalf("Plain(%v) = %v, %d, want %v", m, got, e, want)
		}
		removed[len(m.Cuts)-len(got.Cuts)]++
	}
	if removed[0] < 50 || removed[1] < 50 || removed[2] < 50 || removed[5] < 5 {
		t.Error("the maps are too much alike:", removed)
	}
}

func TestP26SameAgreesWithAModel(t *testing.T) {
	f := fixed(5)
	counts := map[bool]int{}
	for range 2000 {
		a, b := f.cutMap(4, 2), f.cutMap(4, 2)
		if f.below(2) == 0 {
			b, _ = shard.Plain(a)
			for range f.below(6) {
				if x, e := shard.Cut(b, allKeys()[f.below(39)]); e == api.OK {
					b = x
				}
			}
		}
		want := alike(a, b)
		counts[want]++
		if is, e := shard.Same(a, b); is != want || e != api.OK {
			t.Fatalf("Same(%v, %v) = %v, %d, want %v", a, b, is, e, want)
		}
	}
	if counts[true] < 500 || counts[false] < 500 {
		t.Error("the maps are too much alike:", counts)
	}
}

// The parts of all owners have the right keys and are joined to the whole.
func TestP27PartsJoinToTheWhole(t *testing.T) {
	f := fixed(6)
	for range 500 {
		m, l := f.cutMap(12, 4), f.pairsOf()
		var union []api.Pair
		for owner := range api.MaxOwners {
			part, e := shard.Part(m, l, owner)
			want := slices.DeleteFunc(slices.Clone(l), func(p api.Pair) bool { return ownerOf(m, p.Key) != owner })
			if !slices.Equal(part, want) || e != api.OK {
				t.Fatalf("Part(%v, %v, %d) = %v, %d, want %v", m, l, owner, part, e, want)
			}
			union, e = store.Join(union, part)
			if e != api.OK {
				t.Fatalf("Part(%v, %v, %d) = %v has a key of another part: %d", m, l, owner, part, e)
			}
		}
		if !slices.Equal(union, l) {
			t.Fatalf("the parts of %v by %v are joined to %v", l, m, union)
		}
	}
}

// Maps with the same Plain have the same parts.
func TestP26P27PlainHasTheSameParts(t *testing.T) {
	f := fixed(7)
	for range 300 {
		m, l := f.cutMap(12, 3), f.pairsOf()
		plain, _ := shard.Plain(m)
		for owner := range api.MaxOwners {
			a, _ := shard.Part(m, l, owner)
			b, _ := shard.Part(plain, l, owner)
			if !slices.Equal(a, b) {
				t.Fatalf("the part of %d by %v is %v, by %v it is %v", owner, m, a, plain, b)
			}
		}
	}
}

// P1: odd arguments of every kind, in every combination, end in a return.
func TestP1NoPanic(t *testing.T) {
	maps := append(goodMaps(),
		api.Map{Cuts: make([]string, 1<<16), Owners: make([]int, 1<<16+1)},
		api.Map{Cuts: make([]string, 1<<16)},
		api.Map{Owners: make([]int, 1<<16)},
		api.Map{Cuts: make([]string, 12), Owners: make([]int, 13)})
	for _, bad := range badMaps() {
		maps = append(maps, bad.m)
	}
	words := append(badKeys(), "a", "b", "m", "zzzzzz")
	numbers := append(badOwners(), 0, 1, 2, 3, 12, 13, 14)
	stores := [][]api.Pair{nil, {}, pairs("a", 1, "b", 2), pairs("\xff", 0), make([]api.Pair, 1<<10)}
	for i, m := range maps {
		shard.Check(m)
		shard.Plain(m)
		shard.Same(m, m)
		shard.Same(m, maps[(i+1)%len(maps)])
		shard.Same(maps[(i+1)%len(maps)], m)
		for _, key := range words {
			shard.Find(m, key)
			shard.Cut(m, key)
		}
		for _, n := range numbers {
			for _, owner := range numbers {
				shard.Give(m, n, owner)
			}
			for _, l := range stores {
				shard.Part(m, l, n)
			}
		}
	}
	shard.Part(mapOf(0), nil, math.MinInt)
}
