package plan_test

import (
	"math"
	"math/big"
	"slices"
	"strings"
	"testing"

	"ropery/api"
	"ropery/deed"
	"ropery/lock"
	"ropery/plan"
)

// fixed is a sequence of numbers that is the same in every run.
type fixed uint64

func (f *fixed) below(n int) int {
	*f = *f*6364136223846793005 + 1442695040888963407
	return int((uint64(*f) >> 33) % uint64(n))
}

// deed is a transaction on the first keys of a list of eight.
func (f *fixed) deed(most, keys int) api.Deed {
	names := []string{"a", "aa", "b", "c", "d", "zz", "x", "y"}[:keys]
	var d api.Deed
	for range 1 + f.below(most) {
		at := f.below(keys)
		from := (at + 1 + f.below(keys-1)) % keys
		d.Ops = append(d.Ops, api.Op{Kind: 1 + f.below(5), Key: names[at], From: names[from], N: f.below(4)})
	}
	return d
}

// deeds is a list of at most n transactions.
func (f *fixed) deeds(n int) []api.Deed {
	keys, most := 2+f.below(7), 1+f.below(3)
	var ds []api.Deed
	for range f.below(n + 1) {
		ds = append(ds, f.deed(most, keys))
	}
	return ds
}

// picks are any numbers, too few or too many for n transactions.
func (f *fixed) picks(n int) []int {
	var l []int
	for range f.below(n + 6) {
		big := f.below(1<<31)<<33 ^ f.below(1<<31)<<10 ^ f.below(1<<31)
		l = append(l, []int{big, -big, f.below(60), -f.below(60), math.MinInt, math.MaxInt}[f.below(6)])
	}
	return l
}

// store is a store on some of the keys.
func (f *fixed) store() []api.Pair {
	var l []api.Pair
	for _, key := range []string{"a", "aa", "b", "c", "x", "zz"} {
		if n := f.below(7) - 2; n != 0 {
			l = append(l, api.Pair{Key: key, Value: n})
		}
	}
	return l
}

// remainder returns a pick modulo 2^64 and then modulo k, computed with
// integers of any size.
func remainder(pick, k int) int {
	word := new(big.Int).Lsh(big.NewInt(1), 64)
	n := new(big.Int).Mod(big.NewInt(int64(pick)), word)
	return int(n.Mod(n, big.NewInt(int64(k))).Int64())
}

// conflict tells whether two transactions conflict, from their operations alone.
func conflict(a, b api.Deed) bool {
	for _, x := range a.Ops {
		for _, y := range b.Ops {
			for key, writes := range uses(x) {
				if other, both := uses(y)[key]; both && (writes || other) {
					return true
				}
			}
		}
	}
	return false
}

// uses returns the keys of an operation, and whether it writes them.
func uses(op api.Op) map[string]bool {
	switch op.Kind {
	case api.Need:
		return map[string]bool{op.Key: false}
	case api.Copy:
		return map[string]bool{op.Key: true, op.From: false}
	case api.Move:
		return map[string]bool{op.Key: true, op.From: true}
	}
	return map[string]bool{op.Key: true}
}

// schedule returns the order that picks selects, without a lock table.
func schedule(ds []api.Deed, picks []int) []int {
	var order []int
	for len(order) < len(ds) {
		ready := slices.DeleteFunc(upTo(len(ds)), func(i int) bool {
			for j := range i {
				if !slices.Contains(order, j) && conflict(ds[j], ds[i]) {
					return true
				}
			}
			return slices.Contains(order, i)
		})
		at := 0
		if len(picks) > 0 {
			at, picks = remainder(picks[0], len(ready)), picks[1:]
		}
		order = append(order, ready[at])
	}
	return order
}

func TestP19AgreesWithAModelAndWithSerial(t *testing.T) {
	f := fixed(1)
	moved, aborted := 0, 0
	for range 400 {
		l, ds := f.store(), f.deeds(60)
		picks := f.picks(len(ds))
		want, executed, _ := deed.Serial(l, ds)
		order := schedule(ds, picks)
		plays(t, l, ds, picks, want, executed, order)
		if is, e := plan.Order(ds, order); !is || e != api.OK {
			t.Errorf("Order(%v, %v) = %v, %d", ds, order, is, e)
		}
		if !slices.IsSorted(order) {
			moved++
		}
		if slices.Contains(executed, false) {
			aborted++
		}
	}
	if moved < 100 || aborted < 100 {
		t.Error("the lists are too much alike:", moved, aborted)
	}
}

// Levels are the rounds in which a table is emptied, if all runnable
// transactions leave it together.
func TestP20AgreesWithALockTable(t *testing.T) {
	f := fixed(2)
	for range 400 {
		ds := f.deeds(60)
		x := lock.New()
		for _, d := range ds {
			x.Add(d)
		}
		want := make([]int, len(ds))
		for round := 0; x.Left() > 0; round++ {
			for _, seq := range x.Ready() {
				want[seq] = round
				x.Free(seq)
			}
		}
		if got, e := plan.Rounds(ds); !slices.Equal(got, want) || e != api.OK {
			t.Fatalf("Rounds(%v) = %v, %d, want %v", ds, got, e, want)
		}
	}
}

// permute calls visit with every order of the numbers below n.
func permute(n int, head []int, visit func([]int)) {
	if len(head) == n {
		visit(slices.Clone(head))
	}
	for i := range n {
		if !slices.Contains(head, i) {
			permute(n, append(slices.Clone(head), i), visit)
		}
	}
}

// picksFor returns picks that lead to an order, or false if there are none.
func picksFor(ds []api.Deed, order []int) ([]int, bool) {
	x := lock.New()
	for _, d := range ds {
		x.Add(d)
	}
	var picks []int
	for _, seq := range order {
		at := slices.Index(x.Ready(), seq)
		if at < 0 {
			return nil, false
		}
		picks = append(picks, at)
		x.Free(seq)
	}
	return picks, true
}

// Of all orders of a list, Order accepts those that Play can execute.
func TestP21AcceptsWhatPlayCanExecute(t *testing.T) {
	f := fixed(3)
	counts := map[bool]int{}
	for range 60 {
		l, ds := f.store(), f.deeds(5)
		want, executed, _ := deed.Serial(l, ds)
		permute(len(ds), nil, func(order []int) {
			picks, can := picksFor(ds, order)
			if is, e := plan.Order(ds, order); is != can || e != api.OK {
				t.Errorf("Order(%v, %v) = %v, %d, want %v", ds, order, is, e, can)
			}
			if can {
				plays(t, l, ds, picks, want, executed, order)
			}
			counts[can]++
		})
	}
	if counts[true] < 200 || counts[false] < 200 {
		t.Error("the lists are too much alike:", counts)
	}
}

// Transactions in the order of their levels keep the order of conflicts.
func TestP21AcceptsTheOrderOfLevels(t *testing.T) {
	f := fixed(4)
	for range 200 {
		ds := f.deeds(60)
		levels, _ := plan.Rounds(ds)
		order := reversed(len(ds))
		slices.SortStableFunc(order, func(a, b int) int { return levels[a] - levels[b] })
		if is, e := plan.Order(ds, order); !is || e != api.OK {
			t.Fatalf("Order(%v, %v) = %v, %d", ds, order, is, e)
		}
	}
}

// P1: odd arguments end in a return.
func TestP1NoPanic(t *testing.T) {
	numbers := []int{0, 1, -1, 59, 60, 61, 1 << 32, api.MaxValue, -api.MaxValue, math.MaxInt, math.MinInt}
	words := []string{"", "a", "b", "A", "\x00", "\xff\xfe", "é", strings.Repeat("z", 1<<10)}
	lists := [][]api.Deed{nil, {}, {{}}, make([]api.Deed, 60), make([]api.Deed, 1<<16), apart(3), apart(60), apart(61)}
	for _, kind := range []int{0, 1, 2, 3, 4, 5, 6, math.MaxInt, math.MinInt} {
		for _, key := range words {
			for _, from := range words {
				for _, n := range numbers {
					lists = append(lists, each(set("a", 1), api.Op{Kind: kind, Key: key, From: from, N: n}))
				}
			}
		}
	}
	stores := [][]api.Pair{nil, {}, pairs("a", 1, "b", 2), pairs("\xff", 0), make([]api.Pair, 1<<10)}
	for i, ds := range lists {
		plan.Rounds(ds)
		for j, n := range numbers {
			plan.Play(stores[(i+j)%len(stores)], ds, []int{n, -n, n, n})
			plan.Order(ds, []int{n, 0})
			plan.Order(ds, []int{0, n})
			plan.Order(ds, slices.Repeat([]int{n}, len(ds)))
		}
	}
	plan.Order(apart(60), make([]int, 1<<20))
	plan.Play(nil, apart(60), make([]int, 1<<20))
}
