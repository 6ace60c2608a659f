package deed_test

import (
	"maps"
	"math"
	"slices"
	"strings"
	"testing"

	"ropery/api"
	"ropery/deed"
	"ropery/store"
)

// fixed is a sequence of numbers that is the same in every run.
type fixed uint64

func (f *fixed) below(n int) int {
	*f = *f*6364136223846793005 + 1442695040888963407
	return int((uint64(*f) >> 33) % uint64(n))
}

// key is one of few keys, so that operations meet.
func (f *fixed) key() string {
	return []string{"a", "aa", "b", "c", "d", "zz"}[f.below(6)]
}

// value is small or near the bounds.
func (f *fixed) value() int {
	n := f.below(9) - 4
	switch f.below(6) {
	case 0:
		return min(api.MaxValue-4+f.below(9), api.MaxValue)
	case 1:
		return max(-api.MaxValue-4+f.below(9), -api.MaxValue)
	}
	return n
}

func (f *fixed) op() api.Op {
	op := api.Op{Kind: 1 + f.below(5), Key: f.key(), From: f.key(), N: f.value()}
	for op.From == op.Key {
		op.From = f.key()
	}
	if op.Kind == api.Move && op.N < 0 {
		op.N = -op.N
	}
	return op
}

func (f *fixed) deed(most int) api.Deed {
	var d api.Deed
	for range 1 + f.below(most) {
		d.Ops = append(d.Ops, f.op())
	}
	return d
}

func (f *fixed) store() map[string]int {
	m := map[string]int{}
	for range f.below(6) {
		if n := f.value(); n != 0 {
			m[f.key()] = n
		}
	}
	return m
}

// listOf returns the store that holds a map's keys.
func listOf(m map[string]int) []api.Pair {
	var l []api.Pair
	for _, key := range slices.Sorted(maps.Keys(m)) {
		if m[key] != 0 {
			l = append(l, api.Pair{Key: key, Value: m[key]})
		}
	}
	return l
}

// runModel executes a transaction on a map, or returns the map as it was and false.
func runModel(m map[string]int, d api.Deed) (map[string]int, bool) {
	n := maps.Clone(m)
	for _, op := range d.Ops {
		switch op.Kind {
		case api.Set:
			n[op.Key] = op.N
		case api.Add:
			n[op.Key] += op.N
		case api.Copy:
			n[op.Key] = n[op.From]
		case api.Need:
			if n[op.Key] < op.N {
				return m, false
			}
		case api.Move:
			if n[op.From] < op.N {
				return m, false
			}
			n[op.From] -= op.N
			n[op.Key] += op.N
		}
		for _, x := range n {
			if x > 1000000000 || x < -1000000000 {
				return m, false
			}
		}
	}
	return n, true
}

func TestP12AgreesWithAMap(t *testing.T) {
	f := fixed(1)
	counts := map[bool]int{}
	for range 20000 {
		m, d := f.store(), f.deed(8)
		after, want := runModel(m, d)
		got, done, e := deed.Run(listOf(m), d)
		if !slices.Equal(got, listOf(after)) || done != want || e != api.OK || store.Check(got) != api.OK {
			t.Fatalf("Run(%v, %v) = %v, %v, %d, want %v, %v", listOf(m), d, got, done, e, listOf(after), want)
		}
		counts[done]++
	}
	if counts[true] < 2000 || counts[false] < 2000 {
		t.Error("the transactions are too much alike:", counts)
	}
}

func TestP14AgreesWithAMap(t *testing.T) {
	f := fixed(2)
	for range 500 {
		m := f.store()
		l := listOf(m)
		var ds []api.Deed
		var want []bool
		for range f.below(61) {
			d := f.deed(3)
			next, done := runModel(m, d)
			m, ds, want = next, append(ds, d), append(want, done)
		}
		got, done, e := deed.Serial(l, ds)
		if !slices.Equal(got, listOf(m)) || !slices.Equal(done, want) || e != api.OK {
			t.Fatalf("Serial(%v, %v) = %v, %v, %d, want %v, %v", l, ds, got, done, e, listOf(m), want)
		}
	}
}

// What a transaction does depends on its read set alone, and what it changes
// is in its write set.
func TestP11KeysBoundWhatRunDoes(t *testing.T) {
	f := fixed(3)
	for range 5000 {
		m, d := f.store(), f.deed(4)
		reads, writes, _ := deed.Keys(d)
		if !strictly(reads) || !strictly(writes) {
			t.Fatalf("Keys(%v) = %v, %v", d, reads, writes)
		}
		l := listOf(m)
		after, done, _ := deed.Run(l, d)
		other := f.store()
		for _, key := range reads {
			other[key] = m[key]
		}
		otherAfter, otherDone, _ := deed.Run(listOf(other), d)
		if done != otherDone {
			t.Fatalf("Run(%v, %v) is %v, but for %v it is %v", l, d, done, listOf(other), otherDone)
		}
		for _, key := range []string{"a", "aa", "b", "c", "d", "zz"} {
			was, _ := store.Get(l, key)
			is, _ := store.Get(after, key)
			otherIs, _ := store.Get(otherAfter, key)
			if was != is && !slices.Contains(writes, key) {
				t.Fatalf("Run(%v, %v) changed %s, which is not in %v", l, d, key, writes)
			}
			if done && slices.Contains(writes, key) && is != otherIs {
				t.Fatalf("%v of %s: %d for %v, %d for %v", d, key, is, l, otherIs, listOf(other))
			}
		}
	}
}

func strictly(keys []string) bool {
	for i := 1; i < len(keys); i++ {
		if keys[i-1] >= keys[i] {
			return false
		}
	}
	return true
}

// clashModel compares the operations of two transactions one by one.
func clashModel(a, b api.Deed) bool {
	// touches returns whether an operation reads and writes a key.
	touches := func(op api.Op, key string) (bool, bool) {
		isKey, isFrom := op.Key == key, op.From == key
		switch op.Kind {
		case api.Set:
			return false, isKey
		case api.Add:
			return isKey, isKey
		case api.Copy:
			return isFrom, isKey
		case api.Need:
			return isKey, false
		}
		return isKey || isFrom, isKey || isFrom
	}
	for _, x := range a.Ops {
		for _, y := range b.Ops {
			for _, key := range []string{"a", "aa", "b", "c", "d", "zz"} {
				readX, writeX := touches(x, key)
				readY, writeY := touches(y, key)
				if writeX && (readY || writeY) || writeY && readX {
					return true
				}
			}
		}
	}
	return false
}

// Transactions that do not clash can be executed in either order.
func TestP13ClashAgreesWithAModelAndOrderDoesNotMatterWithoutIt(t *testing.T) {
	f := fixed(4)
	counts := map[bool]int{}
	for range 10000 {
		a, b := f.deed(2), f.deed(2)
		clash, e := deed.Clash(a, b)
		if clash != clashModel(a, b) || e != api.OK {
			t.Fatalf("Clash(%v, %v) = %v, %d", a, b, clash, e)
		}
		counts[clash]++
		if clash {
			continue
		}
		l := listOf(f.store())
		one, doneOne, _ := deed.Serial(l, []api.Deed{a, b})
		two, doneTwo, _ := deed.Serial(l, []api.Deed{b, a})
		if !slices.Equal(one, two) || doneOne[0] != doneTwo[1] || doneOne[1] != doneTwo[0] {
			t.Fatalf("%v and %v on %v: %v, %v or %v, %v", a, b, l, one, doneOne, two, doneTwo)
		}
	}
	if counts[true] < 1000 || counts[false] < 1000 {
		t.Error("the transactions are too much alike:", counts)
	}
}

// P1: odd arguments of every kind, in every combination, end in a return.
func TestP1NoPanic(t *testing.T) {
	words := []string{"", "a", "b", "A", "\x00", "\xff\xfe", "é", strings.Repeat("z", 1<<10)}
	numbers := []int{0, 1, -1, api.MaxValue, -api.MaxValue, api.MaxValue + 1, math.MaxInt, math.MinInt}
	lists := [][]api.Pair{nil, {}, make([]api.Pair, 3), pairs("a", api.MaxValue, "b", -api.MaxValue)}
	for _, bad := range badStores() {
		lists = append(lists, bad.l)
	}
	var deeds []api.Deed
	for _, kind := range []int{0, 1, 2, 3, 4, 5, 6, math.MaxInt, math.MinInt} {
		for _, key := range words {
			for _, from := range words {
				for _, n := range numbers {
					deeds = append(deeds, ops(api.Op{Kind: kind, Key: key, From: from, N: n}))
				}
			}
		}
	}
	deeds = append(deeds, api.Deed{}, api.Deed{Ops: make([]api.Op, 8)}, api.Deed{Ops: make([]api.Op, 1<<16)})
	for i, d := range deeds {
		deed.Check(d)
		deed.Keys(d)
		deed.Clash(d, deeds[len(deeds)-1-i])
		deed.Clash(d, d)
		for _, l := range lists {
			deed.Run(l, d)
			deed.Serial(l, []api.Deed{d, d})
		}
	}
	deed.Serial(nil, make([]api.Deed, 60))
	deed.Serial(nil, make([]api.Deed, 1<<16))
}
