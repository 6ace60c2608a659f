package plan_test

import (
	"math"
	"slices"
	"testing"

	"ropery/api"
	"ropery/plan"
)

func set(key string, n int) api.Op        { return api.Op{Kind: api.Set, Key: key, N: n} }
func add(key string, n int) api.Op        { return api.Op{Kind: api.Add, Key: key, N: n} }
func cpy(key, from string) api.Op         { return api.Op{Kind: api.Copy, Key: key, From: from} }
func need(key string, n int) api.Op       { return api.Op{Kind: api.Need, Key: key, N: n} }
func move(key, from string, n int) api.Op { return api.Op{Kind: api.Move, Key: key, From: from, N: n} }

func ops(l ...api.Op) api.Deed { return api.Deed{Ops: l} }

// each returns transactions of one operation each.
func each(l ...api.Op) []api.Deed {
	var ds []api.Deed
	for _, op := range l {
		ds = append(ds, ops(op))
	}
	return ds
}

// pairs returns a store of keys and values, which alternate.
func pairs(l ...any) []api.Pair {
	var s []api.Pair
	for i := 0; i < len(l); i += 2 {
		s = append(s, api.Pair{Key: l[i].(string), Value: l[i+1].(int)})
	}
	return s
}

// apart returns n transactions of which no two conflict.
func apart(n int) []api.Deed {
	var ds []api.Deed
	for i := range n {
		ds = append(ds, ops(set(string([]byte{'a' + byte(i/26), 'a' + byte(i%26)}), i+1)))
	}
	return ds
}

// upTo returns the numbers below n.
func upTo(n int) []int {
	l := make([]int, n)
	for i := range l {
		l[i] = i
	}
	return l
}

// yes returns n times true.
func yes(n int) []bool { return slices.Repeat([]bool{true}, n) }

// plays compares the results of Play with those that it should have.
func plays(t *testing.T, l []api.Pair, ds []api.Deed, picks []int, want []api.Pair, executed []bool, order []int) {
	t.Helper()
	gotL, gotExecuted, gotOrder, e := plan.Play(l, ds, picks)
	if !slices.Equal(gotL, want) || !slices.Equal(gotExecuted, executed) || !slices.Equal(gotOrder, order) || e != api.OK {
		t.Errorf("Play(%v, %v, %v) = %v, %v, %v, %d, want %v, %v, %v", l, ds, picks, gotL, gotExecuted, gotOrder, e, want, executed, order)
	}
}

// orders compares the order of execution with the one that it should be.
func orders(t *testing.T, ds []api.Deed, picks, order []int) {
	t.Helper()
	if _, _, got, e := plan.Play(nil, ds, picks); !slices.Equal(got, order) || e != api.OK {
		t.Errorf("Play(nil, %v, %v) has the order %v, %d, want %v", ds, picks, got, e, order)
	}
}

func TestP19NothingToDo(t *testing.T) {
	for _, l := range [][]api.Pair{nil, {}, pairs("a", 1), pairs("a", -5, "b", 7)} {
		for _, picks := range [][]int{nil, {}, {0}, {3, -1}} {
			plays(t, l, nil, picks, l, nil, nil)
			plays(t, l, []api.Deed{}, picks, l, nil, nil)
		}
	}
}

func TestP19ExecutesTransactions(t *testing.T) {
	l := pairs("a", 5, "q", 1)
	plays(t, l, each(set("b", 3)), nil, pairs("a", 5, "b", 3, "q", 1), yes(1), []int{0})
	plays(t, l, each(set("a", 0)), nil, pairs("q", 1), yes(1), []int{0})
	plays(t, l, each(need("a", 6)), nil, l, []bool{false}, []int{0})
	// Each sees what those before it did, and an abort leaves nothing behind.
	ds := []api.Deed{
		ops(move("b", "a", 4)),
		ops(set("c", 9), move("b", "a", 4)),
		ops(add("b", 1), cpy("d", "b")),
		ops(add("d", api.MaxValue)),
		ops(set("a", 0), need("d", 5)),
	}
	plays(t, l, ds, nil, pairs("b", 5, "d", 5, "q", 1), []bool{true, false, true, false, true}, upTo(5))
}

// The second result is in the order of the list, not in that of execution.
func TestP19ExecutedByNumber(t *testing.T) {
	ds := each(set("a", 1), need("b", 1), set("c", 1), need("d", 0), need("e", 1))
	executed := []bool{true, false, true, true, false}
	want := pairs("a", 1, "c", 1)
	plays(t, nil, ds, nil, want, executed, upTo(5))
	plays(t, nil, ds, []int{4, 3, 2, 1, 0}, want, executed, []int{4, 3, 2, 1, 0})
	plays(t, nil, ds, []int{1, 2, 0, 1}, want, executed, []int{1, 3, 0, 4, 2})
}

func TestP19PicksSelect(t *testing.T) {
	// 2 waits for 0, and 3 waits for 2.
	ds := each(set("a", 1), set("b", 2), cpy("c", "a"), need("c", 2))
	for _, c := range []struct {
		name         string
		picks, order []int
	}{
		{"none: always the first", nil, []int{0, 1, 2, 3}},
		{"zeros", []int{0, 0, 0, 0}, []int{0, 1, 2, 3}},
		{"the second of two", []int{1}, []int{1, 0, 2, 3}},
		{"modulo the runnable ones", []int{7}, []int{1, 0, 2, 3}},
		{"an even number of two", []int{6}, []int{0, 1, 2, 3}},
		{"one that has become runnable", []int{0, 1}, []int{0, 2, 1, 3}},
		{"the last one possible each time", []int{0, 1, 1}, []int{0, 2, 3, 1}},
		{"more than transactions", []int{0, 1, 1, 1, 1, 1}, []int{0, 2, 3, 1}},
	} {
		t.Run(c.name, func(t *testing.T) { orders(t, ds, c.picks, c.order) })
	}
}

// A step with one runnable transaction uses up an element of picks too.
func TestP19PicksOfASingleOne(t *testing.T) {
	ds := each(set("a", 1), need("a", 0), need("a", 0), need("a", 0))
	orders(t, ds, []int{2}, []int{0, 1, 2, 3})
	orders(t, ds, []int{2, 1}, []int{0, 2, 1, 3})
	orders(t, ds, []int{5, 2, 1}, []int{0, 3, 2, 1})
	chain := each(add("a", 1), add("a", 1), add("a", 1))
	orders(t, chain, []int{9, -9, math.MinInt}, []int{0, 1, 2})
}

// Of three runnable transactions, 2^64 modulo 3 is 1, so that a negative pick
// does not select what its remainder modulo 3 would.
func TestP19PicksModulo(t *testing.T) {
	for _, c := range []struct{ k, pick, first int }{
		{3, 0, 0}, {3, 1, 1}, {3, 2, 2}, {3, 3, 0}, {3, 4, 1}, {3, 1000, 1},
		{3, -1, 0}, {3, -2, 2}, {3, -3, 1}, {3, -4, 0},
		{3, math.MaxInt, 1}, {3, math.MinInt, 2}, {3, math.MinInt + 1, 0},
		{2, -1, 1}, {2, -2, 0}, {4, -1, 3}, {4, -4, 0},
		{7, -1, 1}, {7, -2, 0}, {7, -3, 6}, {7, math.MinInt, 1},
		{60, -1, 15}, {60, -60, 16}, {60, math.MaxInt, 7}, {60, math.MinInt, 8}, {60, 59, 59}, {60, 60, 0},
		{60, 1 << 32, 16}, {1, -1, 0}, {1, math.MinInt, 0},
	} {
		_, _, order, e := plan.Play(nil, apart(c.k), []int{c.pick})
		if e != api.OK || len(order) != c.k || order[0] != c.first {
			t.Errorf("pick %d of %d: order %v, %d, want %d first", c.pick, c.k, order, e, c.first)
		}
	}
}

// Whatever is picked, the store and the aborts are those of the list's order.
func TestP19SameStoreInEveryOrder(t *testing.T) {
	l := pairs("a", 10, "b", 1)
	ds := []api.Deed{
		ops(move("b", "a", 7)),
		ops(set("c", 4)),
		ops(move("d", "a", 7)),
		ops(need("b", 8), add("e", 1)),
		ops(move("d", "c", 4)),
		ops(cpy("f", "d")),
	}
	want, executed := pairs("a", 3, "b", 8, "d", 4, "e", 1, "f", 4), []bool{true, true, false, true, true, true}
	plays(t, l, ds, nil, want, executed, []int{0, 1, 2, 3, 4, 5})
	plays(t, l, ds, []int{1, 0, 1, 0, 0, 0}, want, executed, []int{1, 0, 3, 2, 4, 5})
	plays(t, l, ds, []int{0, 2, 1, 0}, want, executed, []int{0, 3, 2, 1, 4, 5})
}

func TestP19Sixty(t *testing.T) {
	_, executed, order, e := plan.Play(nil, apart(60), slices.Repeat([]int{-1}, 60))
	if len(executed) != 60 || len(order) != 60 || e != api.OK {
		t.Error("60 apart:", executed, order, e)
	}
	chain := slices.Repeat(each(add("a", 1)), 60)
	plays(t, nil, chain, slices.Repeat([]int{7}, 60), pairs("a", 60), yes(60), upTo(60))
}

// badDeed is a transaction that is not valid, with the error of deed.Check.
type badDeed struct {
	d    api.Deed
	want api.Errno
}

func badDeeds() []badDeed {
	return []badDeed{
		{ops(), api.ErrLarge},
		{api.Deed{Ops: []api.Op{}}, api.ErrLarge},
		{api.Deed{Ops: slices.Repeat([]api.Op{set("a", 1)}, 9)}, api.ErrLarge},
		{ops(api.Op{}), api.ErrForm},
		{ops(api.Op{Kind: 6, Key: "a", From: "b", N: 1}), api.ErrForm},
		{ops(set("", 1)), api.ErrForm},
		{ops(set("aaaaaaa", 1)), api.ErrForm},
		{ops(cpy("a", "a")), api.ErrForm},
		{ops(move("a", "A", 1)), api.ErrForm},
		{ops(set("a", api.MaxValue+1)), api.ErrArg},
		{ops(move("a", "b", -1)), api.ErrArg},
		{ops(set("a", 1), need("b", math.MinInt)), api.ErrArg},
	}
}

// badList is a list of transactions with an error.
type badList struct {
	ds   []api.Deed
	want api.Errno
}

// badLists have an invalid transaction at any place, or too many transactions.
func badLists() []badList {
	large, form, arg := ops(), ops(set("A", 1)), ops(set("a", api.MaxValue+1))
	l := []badList{
		{apart(61), api.ErrLarge},
		{make([]api.Deed, 1000), api.ErrLarge},
		// The length of the list comes first.
		{slices.Repeat([]api.Deed{form}, 61), api.ErrLarge},
		{append([]api.Deed{arg}, apart(60)...), api.ErrLarge},
		// The first transaction with an error comes first.
		{[]api.Deed{large, form, arg}, api.ErrLarge},
		{[]api.Deed{form, arg, large}, api.ErrForm},
		{[]api.Deed{arg, large, form}, api.ErrArg},
		{slices.Repeat([]api.Deed{form}, 60), api.ErrForm},
	}
	for _, bad := range badDeeds() {
		for _, at := range []int{0, 1, 30, 59} {
			l = append(l, badList{slices.Insert(apart(59), at, bad.d), bad.want})
		}
		l = append(l, badList{[]api.Deed{bad.d}, bad.want})
	}
	return l
}

// badStores are stores with an error.
func badStores() []struct {
	l    []api.Pair
	want api.Errno
} {
	return []struct {
		l    []api.Pair
		want api.Errno
	}{
		{pairs("", 1), api.ErrForm},
		{pairs("a", 1, "B", 1), api.ErrForm},
		{pairs("a", 0), api.ErrArg},
		{pairs("a", api.MaxValue+1), api.ErrArg},
		{pairs("b", 1, "a", 1), api.ErrForm},
		{pairs("a", 1, "a", 1), api.ErrForm},
	}
}

// playFails tests for an error of Play, with zero values beside it.
func playFails(t *testing.T, l []api.Pair, ds []api.Deed, want api.Errno) {
	t.Helper()
	for _, picks := range [][]int{nil, {1, 2, 3}, {-1}} {
		got, executed, order, e := plan.Play(l, ds, picks)
		if len(got) != 0 || len(executed) != 0 || len(order) != 0 || e != want {
			t.Errorf("Play(%v, %v, %v) = %v, %v, %v, %d, want %d", l, ds, picks, got, executed, order, e, want)
		}
	}
}

func TestP19Errors(t *testing.T) {
	for _, bad := range badLists() {
		playFails(t, nil, bad.ds, bad.want)
		playFails(t, pairs("a", 1, "b", 2), bad.ds, bad.want)
	}
	for _, s := range badStores() {
		playFails(t, s.l, nil, s.want)
		playFails(t, s.l, each(set("q", 1), set("r", 1)), s.want)
		// The store comes before the list.
		for _, bad := range badLists() {
			playFails(t, s.l, bad.ds, s.want)
		}
	}
}

func TestP20Levels(t *testing.T) {
	for _, c := range []struct {
		name   string
		ds     []api.Deed
		levels []int
	}{
		{"none", nil, nil},
		{"one", each(set("a", 1)), []int{0}},
		{"two without conflict", each(set("a", 1), set("b", 1)), []int{0, 0}},
		{"readers", each(need("a", 1), need("a", 1), cpy("b", "a"), cpy("c", "a")), []int{0, 0, 0, 0}},
		{"writers", each(set("a", 1), set("a", 1), set("a", 1)), []int{0, 1, 2}},
		{"a writer and readers", each(set("a", 1), need("a", 1), need("a", 1)), []int{0, 1, 1}},
		{"readers and a writer", each(need("a", 1), need("a", 1), set("a", 1), need("a", 1)), []int{0, 0, 1, 2}},
		{"Add", each(add("a", 1), need("a", 1), add("a", 1)), []int{0, 1, 2}},
		{"both keys of Move", each(move("a", "b", 1), need("a", 1), need("b", 1), set("c", 1)), []int{0, 1, 1, 0}},
		{"a chain", each(set("a", 1), cpy("b", "a"), cpy("c", "b"), cpy("d", "c")), []int{0, 1, 2, 3}},
		{"a later one counts for nobody before it", each(cpy("b", "a"), cpy("c", "a"), set("a", 1)), []int{0, 0, 1}},
		{"the maximum, which is not the last", []api.Deed{
			ops(set("a", 1)), ops(set("a", 1)), ops(set("a", 1)), ops(set("b", 1)), ops(need("a", 1), need("b", 1)),
		}, []int{0, 1, 2, 0, 3}},
		{"the maximum, which is not the first", []api.Deed{
			ops(set("b", 1)), ops(set("a", 1)), ops(set("a", 1)), ops(need("a", 1), need("b", 1)),
		}, []int{0, 0, 1, 2}},
		{"no conflict with the one just before", each(set("a", 1), set("b", 1), set("a", 2), set("b", 2), set("c", 1)), []int{0, 0, 1, 1, 0}},
		{"only direct conflicts", each(set("a", 1), cpy("b", "a"), need("b", 1), need("a", 1)), []int{0, 1, 2, 1}},
		{"equal transactions that only read", slices.Repeat(each(need("a", 1)), 5), []int{0, 0, 0, 0, 0}},
	} {
		if got, e := plan.Rounds(c.ds); !slices.Equal(got, c.levels) || e != api.OK {
			t.Errorf("%s: Rounds = %v, %d, want %v", c.name, got, e, c.levels)
		}
	}
}

func TestP20Sixty(t *testing.T) {
	if got, e := plan.Rounds(slices.Repeat(each(add("a", 1)), 60)); !slices.Equal(got, upTo(60)) || e != api.OK {
		t.Error("a chain of 60:", got, e)
	}
	if got, e := plan.Rounds(apart(60)); !slices.Equal(got, make([]int, 60)) || e != api.OK {
		t.Error("60 apart:", got, e)
	}
}

func TestP20Errors(t *testing.T) {
	for _, bad := range badLists() {
		if got, e := plan.Rounds(bad.ds); len(got) != 0 || e != bad.want {
			t.Errorf("Rounds(%v) = %v, %d, want %d", bad.ds, got, e, bad.want)
		}
	}
}

func TestP21Order(t *testing.T) {
	// 2 conflicts with 0, and 3 with 2.
	list := each(set("a", 1), set("b", 2), cpy("c", "a"), need("c", 2))
	readers := each(need("a", 1), cpy("b", "a"), need("a", 2))
	writers := each(set("a", 1), set("b", 1), set("a", 1))
	for _, c := range []struct {
		name  string
		ds    []api.Deed
		order []int
		want  bool
	}{
		{"none", nil, nil, true},
		{"one", each(set("a", 1)), []int{0}, true},
		{"the list's own order", list, []int{0, 1, 2, 3}, true},
		{"one moved up", list, []int{1, 0, 2, 3}, true},
		{"one moved down", list, []int{0, 2, 1, 3}, true},
		{"one moved to the end", list, []int{0, 2, 3, 1}, true},
		{"a reader before its writer", list, []int{2, 0, 1, 3}, false},
		{"the last two exchanged", list, []int{0, 1, 3, 2}, false},
		{"all reversed", list, []int{3, 2, 1, 0}, false},
		{"a conflict that is not between neighbours", list, []int{2, 1, 0, 3}, false},
		{"the last one first", list, []int{3, 0, 1, 2}, false},
		{"readers reversed", readers, []int{2, 1, 0}, true},
		{"readers mixed", readers, []int{1, 2, 0}, true},
		{"writers in order", writers, []int{0, 2, 1}, true},
		{"writers reversed", writers, []int{2, 1, 0}, false},
		{"writers exchanged, side by side", writers, []int{1, 2, 0}, false},
		{"sixty reversed", apart(60), reversed(60), true},
	} {
		if got, e := plan.Order(c.ds, c.order); got != c.want || e != api.OK {
			t.Errorf("%s: Order of %v = %v, %d, want %v", c.name, c.order, got, e, c.want)
		}
	}
	chain := slices.Repeat(each(add("a", 1)), 60)
	if got, e := plan.Order(chain, upTo(60)); !got || e != api.OK {
		t.Error("a chain of 60:", got, e)
	}
	for i := range 59 {
		order := upTo(60)
		order[i], order[i+1] = i+1, i
		if got, e := plan.Order(chain, order); got || e != api.OK {
			t.Errorf("a chain of 60 with %d and the next exchanged: %v, %d", i, got, e)
		}
	}
}

func reversed(n int) []int {
	l := upTo(n)
	slices.Reverse(l)
	return l
}

func TestP21Errors(t *testing.T) {
	list := each(set("a", 1), set("a", 2), set("b", 1), set("c", 1))
	for _, c := range []struct {
		ds    []api.Deed
		order []int
		want  api.Errno
	}{
		{list, nil, api.ErrForm},
		{list, []int{}, api.ErrForm},
		{list, []int{0, 1, 2}, api.ErrForm},
		{list, []int{0, 1, 2, 3, 4}, api.ErrForm},
		{list, []int{0, 1, 2, 3, 3}, api.ErrForm},
		{list, make([]int, 1000), api.ErrForm},
		{nil, []int{0}, api.ErrForm},
		// The length comes before the elements.
		{list, []int{-1, 0, 0}, api.ErrForm},
		{list, []int{0, 0, 0, 0, 9}, api.ErrForm},
		{list, []int{0, 1, 2, 4}, api.ErrArg},
		{list, []int{-1, 0, 1, 2}, api.ErrArg},
		{list, []int{0, 1, 2, math.MaxInt}, api.ErrArg},
		{list, []int{0, 1, math.MinInt, 2}, api.ErrArg},
		{list, []int{0, 1, 2, 1 << 32}, api.ErrArg},
		{list, []int{4, 4, 4, 4}, api.ErrArg},
		{list, []int{0, 1, 2, 2}, api.ErrThere},
		{list, []int{0, 1, 2, 0}, api.ErrThere},
		{list, []int{0, 0, 0, 0}, api.ErrThere},
		{list, []int{3, 2, 3, 1}, api.ErrThere},
		// The first element with an error comes first.
		{list, []int{0, 0, 9, 1}, api.ErrThere},
		{list, []int{0, 9, 0, 1}, api.ErrArg},
		{list, []int{9, 0, 0, 1}, api.ErrArg},
		// An error comes before a conflict in the wrong order.
		{list, []int{1, 0, 2, 2}, api.ErrThere},
		{list, []int{1, 0, 2, 4}, api.ErrArg},
		{list, []int{1, 0}, api.ErrForm},
	} {
		if got, e := plan.Order(c.ds, c.order); got || e != c.want {
			t.Errorf("Order of %d with %v = %v, %d, want %d", len(c.ds), c.order, got, e, c.want)
		}
	}
	for _, bad := range badLists() {
		for _, order := range [][]int{upTo(len(bad.ds)), nil, {-1}, make([]int, len(bad.ds)), make([]int, 100)} {
			if got, e := plan.Order(bad.ds, order); got || e != bad.want {
				t.Errorf("Order(%v, %v) = %v, %d, want %d", bad.ds, order, got, e, bad.want)
			}
		}
	}
}
