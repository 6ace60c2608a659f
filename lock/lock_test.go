package lock_test

import (
	"math"
	"slices"
	"strings"
	"testing"

	"ropery/api"
	"ropery/lock"
)

func set(key string, n int) api.Op        { return api.Op{Kind: api.Set, Key: key, N: n} }
func add(key string, n int) api.Op        { return api.Op{Kind: api.Add, Key: key, N: n} }
func cpy(key, from string) api.Op         { return api.Op{Kind: api.Copy, Key: key, From: from} }
func need(key string, n int) api.Op       { return api.Op{Kind: api.Need, Key: key, N: n} }
func move(key, from string, n int) api.Op { return api.Op{Kind: api.Move, Key: key, From: from, N: n} }

func ops(l ...api.Op) api.Deed { return api.Deed{Ops: l} }

// tableOf returns a table with transactions of one operation each.
func tableOf(t *testing.T, l ...api.Op) *lock.Table {
	t.Helper()
	x := lock.New()
	for i, op := range l {
		if seq, e := x.Add(ops(op)); seq != i || e != api.OK {
			t.Fatalf("Add of %v = %d, %d, want %d", op, seq, e, i)
		}
	}
	return x
}

// free removes transactions that have to be runnable.
func free(t *testing.T, x *lock.Table, seqs ...int) {
	t.Helper()
	for _, seq := range seqs {
		if e := x.Free(seq); e != api.OK {
			t.Fatalf("Free(%d) = %d", seq, e)
		}
	}
}

// holds compares all that a table tells with the numbers of the transactions
// that should be in it and of those that should be runnable.
func holds(t *testing.T, x *lock.Table, left, ready []int) {
	t.Helper()
	if got := x.Ready(); !slices.Equal(got, ready) {
		t.Errorf("Ready() = %v, want %v", got, ready)
	}
	if got := x.Left(); got != len(left) {
		t.Errorf("Left() = %d, want %d", got, len(left))
	}
	for seq := -2; seq < api.MaxDeeds+2; seq++ {
		want, wantE := slices.Contains(ready, seq), api.OK
		if !slices.Contains(left, seq) {
			wantE = api.ErrNone
		}
		if may, e := x.May(seq); may != want || e != wantE {
			t.Errorf("May(%d) = %v, %d, want %v, %d", seq, may, e, want, wantE)
		}
		if wantE == api.OK && !want {
			wantE = api.ErrWait
		}
		if want {
			continue
		}
		if e := x.Free(seq); e != wantE {
			t.Errorf("Free(%d) = %d, want %d", seq, e, wantE)
		}
	}
}

// oddNumbers are the numbers of no transaction.
func oddNumbers() []int {
	return []int{-1, -2, -60, -256, api.MaxDeeds, 61, 256, 1 << 32, 1<<32 + 1, math.MaxInt, math.MinInt, math.MinInt + 1}
}

func TestP15NewIsEmpty(t *testing.T) {
	holds(t, lock.New(), nil, nil)
	holds(t, new(lock.Table), nil, nil)
	if lock.New() == lock.New() {
		t.Error("New returned the same table twice")
	}
}

func TestP15NumbersInTheOrderOfAdding(t *testing.T) {
	x := tableOf(t, set("c", 1), set("b", 1), set("a", 1))
	holds(t, x, []int{0, 1, 2}, []int{0, 1, 2})
	// A number is not used again.
	free(t, x, 2, 0)
	if seq, e := x.Add(ops(set("d", 1))); seq != 3 || e != api.OK {
		t.Error("after Free:", seq, e)
	}
	free(t, x, 1, 3)
	if seq, e := x.Add(ops(set("d", 1))); seq != 4 || e != api.OK {
		t.Error("in an empty table:", seq, e)
	}
	holds(t, x, []int{4}, []int{4})
}

func TestP15TablesAreSeparate(t *testing.T) {
	x, y := lock.New(), lock.New()
	x.Add(ops(set("a", 1)))
	x.Add(ops(set("b", 1)))
	if seq, e := y.Add(ops(set("a", 1))); seq != 0 || e != api.OK {
		t.Error("another table:", seq, e)
	}
	holds(t, y, []int{0}, []int{0})
	free(t, y, 0)
	holds(t, x, []int{0, 1}, []int{0, 1})
	var zero lock.Table
	if seq, e := zero.Add(ops(set("a", 1))); seq != 0 || e != api.OK {
		t.Error("a table that New did not return:", seq, e)
	}
	holds(t, &zero, []int{0}, []int{0})
}

// badDeed is a transaction that is not valid, with the error of deed.Check.
type badDeed struct {
	d    api.Deed
	want api.Errno
}

func badDeeds() []badDeed {
	return []badDeed{
		{ops(), api.ErrLarge},
		{api.Deed{Ops: []api.Op{}}, api.ErrLarge},
		{api.Deed{Ops: slices.Repeat([]api.Op{set("a", 1)}, 9)}, api.ErrLarge},
		{api.Deed{Ops: make([]api.Op, 1000)}, api.ErrLarge},
		{ops(api.Op{}), api.ErrForm},
		{ops(api.Op{Kind: 6, Key: "a", From: "b", N: 1}), api.ErrForm},
		{ops(api.Op{Kind: -1, Key: "a", From: "b", N: 1}), api.ErrForm},
		{ops(set("", 1)), api.ErrForm},
		{ops(set("A", 1)), api.ErrForm},
		{ops(set("aaaaaaa", 1)), api.ErrForm},
		{ops(need("\xff", 1)), api.ErrForm},
		{ops(cpy("a", "a")), api.ErrForm},
		{ops(move("a", "", 1)), api.ErrForm},
		{ops(set("a", api.MaxValue+1)), api.ErrArg},
		{ops(add("a", math.MinInt)), api.ErrArg},
		{ops(move("a", "b", -1)), api.ErrArg},
		{ops(set("a", 1), set("b", api.MaxValue+1), set("C", 1)), api.ErrArg},
		{ops(set("a", 1), set("B", 1), set("c", api.MaxValue+1)), api.ErrForm},
	}
}

func TestP16AddAcceptsTransactions(t *testing.T) {
	x := lock.New()
	for i, d := range []api.Deed{
		ops(set("a", 1)),
		ops(set("b", 0), add("c", -api.MaxValue), need("d", api.MaxValue)),
		{Ops: slices.Repeat([]api.Op{move("e", "f", 0)}, 8)},
		ops(api.Op{Kind: api.Copy, Key: "g", From: "h", N: math.MaxInt}),
		ops(api.Op{Kind: api.Set, Key: "zzzzzz", From: "?", N: 1}),
	} {
		if seq, e := x.Add(d); seq != i || e != api.OK {
			t.Errorf("Add(%v) = %d, %d, want %d", d, seq, e, i)
		}
	}
	holds(t, x, []int{0, 1, 2, 3, 4}, []int{0, 1, 2, 3, 4})
}

func TestP16AddErrorsLeaveTheTable(t *testing.T) {
	x := tableOf(t, set("a", 1), set("q", 1), need("a", 1))
	empty := lock.New()
	for _, bad := range badDeeds() {
		if seq, e := x.Add(bad.d); seq != 0 || e != bad.want {
			t.Errorf("Add(%v) = %d, %d, want %d", bad.d, seq, e, bad.want)
		}
		if seq, e := empty.Add(bad.d); seq != 0 || e != bad.want {
			t.Errorf("Add(%v) to an empty table = %d, %d, want %d", bad.d, seq, e, bad.want)
		}
	}
	holds(t, empty, nil, nil)
	holds(t, x, []int{0, 1, 2}, []int{0, 1})
	// Neither a number nor a key is left behind by what was not added.
	if seq, e := x.Add(ops(set("b", 1), need("c", 1))); seq != 3 || e != api.OK {
		t.Error("Add after errors:", seq, e)
	}
	holds(t, x, []int{0, 1, 2, 3}, []int{0, 1, 3})
}

func TestP16AtMost60(t *testing.T) {
	x := lock.New()
	for i := range 60 {
		if seq, e := x.Add(ops(set("a", i))); seq != i || e != api.OK {
			t.Fatalf("Add number %d = %d, %d", i, seq, e)
		}
	}
	full := func(left int) {
		t.Helper()
		if seq, e := x.Add(ops(set("a", 1))); seq != 0 || e != api.ErrLarge || x.Left() != left {
			t.Errorf("Add with %d left = %d, %d, and then %d are left", left, seq, e, x.Left())
		}
		// The error of deed.Check comes first.
		for _, bad := range badDeeds() {
			if seq, e := x.Add(bad.d); seq != 0 || e != bad.want {
				t.Errorf("Add(%v) with %d left = %d, %d, want %d", bad.d, left, seq, e, bad.want)
			}
		}
	}
	full(60)
	for i := range 60 {
		if !slices.Equal(x.Ready(), []int{i}) {
			t.Errorf("Ready() = %v, want %d", x.Ready(), i)
		}
		free(t, x, i)
		// 60 have been added, however few of them are left.
		full(59 - i)
	}
	holds(t, x, nil, nil)
}

func TestP17TwoReadersAndAWriter(t *testing.T) {
	x := tableOf(t, need("a", 1), need("a", 2), set("a", 3))
	holds(t, x, []int{0, 1, 2}, []int{0, 1})
	free(t, x, 1)
	holds(t, x, []int{0, 2}, []int{0})
	free(t, x, 0)
	holds(t, x, []int{2}, []int{2})
}

// Each case is transactions of one operation, and those that are runnable.
func TestP17Runnable(t *testing.T) {
	for _, c := range []struct {
		name  string
		l     []api.Op
		ready []int
	}{
		{"one", []api.Op{set("a", 1)}, []int{0}},
		{"readers", []api.Op{need("a", 1), need("a", 1), cpy("b", "a"), cpy("c", "a")}, []int{0, 1, 2, 3}},
		{"writers", []api.Op{set("a", 1), set("a", 1), set("a", 1)}, []int{0}},
		{"writer and readers", []api.Op{set("a", 1), need("a", 1), need("a", 1)}, []int{0}},
		{"reader, writer, reader", []api.Op{need("a", 1), set("a", 1), need("a", 1)}, []int{0}},
		{"a waiting writer still blocks a reader", []api.Op{need("a", 1), set("a", 1), cpy("b", "a"), need("b", 1)}, []int{0}},
		{"separate keys", []api.Op{set("a", 1), set("b", 1), set("aa", 1), need("c", 1)}, []int{0, 1, 2, 3}},
		{"Add reads and writes", []api.Op{add("a", 0), add("a", 0)}, []int{0}},
		{"Add after a reader", []api.Op{need("a", 1), add("a", 1)}, []int{0}},
		{"Need after Add", []api.Op{add("a", 1), need("a", 1)}, []int{0}},
		{"Move writes Key", []api.Op{move("a", "b", 1), need("a", 1)}, []int{0}},
		{"Move writes From", []api.Op{move("a", "b", 1), need("b", 1)}, []int{0}},
		{"Move after a reader of Key", []api.Op{need("a", 1), move("a", "b", 1)}, []int{0}},
		{"Move after a reader of From", []api.Op{need("b", 1), move("a", "b", 1)}, []int{0}},
		{"Move of 0", []api.Op{need("b", 1), move("a", "b", 0)}, []int{0}},
		{"Copy writes Key", []api.Op{cpy("a", "b"), need("a", 1)}, []int{0}},
		{"Copy reads From", []api.Op{cpy("a", "b"), need("b", 1), cpy("c", "b")}, []int{0, 1, 2}},
		{"a write to From of Copy", []api.Op{cpy("a", "b"), set("b", 1)}, []int{0}},
		{"From of Set is ignored", []api.Op{set("b", 1), {Kind: api.Set, Key: "a", From: "b", N: 1}}, []int{0, 1}},
		{"a chain", []api.Op{set("a", 1), cpy("b", "a"), cpy("c", "b"), cpy("d", "c"), need("e", 0)}, []int{0, 4}},
		{"a later one blocks nobody", []api.Op{need("a", 1), need("a", 1), set("b", 1), set("a", 1), need("b", 1)}, []int{0, 1, 2}},
	} {
		left := make([]int, len(c.l))
		for i := range left {
			left[i] = i
		}
		t.Run(c.name, func(t *testing.T) { holds(t, tableOf(t, c.l...), left, c.ready) })
	}
}

// A transaction of several operations waits for the last of its keys.
func TestP17SeveralKeys(t *testing.T) {
	x := tableOf(t, set("a", 1), set("m", 1), set("z", 1))
	x.Add(ops(need("a", 1), need("m", 1), need("z", 1), set("q", 1)))
	x.Add(ops(need("q", 1)))
	x.Add(ops(need("r", 1), set("r", 1), cpy("r", "s"), need("t", 1)))
	x.Add(ops(need("s", 1), need("t", 1)))
	holds(t, x, []int{0, 1, 2, 3, 4, 5, 6}, []int{0, 1, 2, 5, 6})
	free(t, x, 1)
	holds(t, x, []int{0, 2, 3, 4, 5, 6}, []int{0, 2, 5, 6})
	free(t, x, 0)
	holds(t, x, []int{2, 3, 4, 5, 6}, []int{2, 5, 6})
	free(t, x, 2)
	holds(t, x, []int{3, 4, 5, 6}, []int{3, 5, 6})
	free(t, x, 6, 3)
	holds(t, x, []int{4, 5}, []int{4, 5})
}

// A key that a transaction both reads and writes counts as written, in either order.
func TestP17ReadAndWrittenKey(t *testing.T) {
	for _, d := range []api.Deed{ops(need("a", 1), set("a", 1)), ops(set("a", 1), need("a", 1)), ops(cpy("b", "a"), cpy("a", "c"))} {
		x := tableOf(t, need("a", 1))
		x.Add(d)
		x.Add(ops(need("a", 1)))
		holds(t, x, []int{0, 1, 2}, []int{0})
		free(t, x, 0)
		holds(t, x, []int{1, 2}, []int{1})
		free(t, x, 1)
		holds(t, x, []int{2}, []int{2})
	}
}

func TestP17MayErrors(t *testing.T) {
	x := tableOf(t, set("a", 1), set("a", 1), set("b", 1))
	free(t, x, 0)
	for _, seq := range append(oddNumbers(), 0, 3) {
		if may, e := x.May(seq); may || e != api.ErrNone {
			t.Errorf("May(%d) = %v, %d", seq, may, e)
		}
		if may, e := lock.New().May(seq); may || e != api.ErrNone {
			t.Errorf("May(%d) of an empty table = %v, %d", seq, may, e)
		}
	}
	holds(t, x, []int{1, 2}, []int{1, 2})
}

func TestP18FreeLetsTheNextGoOn(t *testing.T) {
	x := tableOf(t, set("a", 1), set("a", 2), need("a", 3), need("a", 4), set("a", 5))
	holds(t, x, []int{0, 1, 2, 3, 4}, []int{0})
	free(t, x, 0)
	holds(t, x, []int{1, 2, 3, 4}, []int{1})
	free(t, x, 1)
	holds(t, x, []int{2, 3, 4}, []int{2, 3})
	free(t, x, 3)
	holds(t, x, []int{2, 4}, []int{2})
	free(t, x, 2)
	holds(t, x, []int{4}, []int{4})
	free(t, x, 4)
	holds(t, x, nil, nil)
}

func TestP18FreeThenAdd(t *testing.T) {
	x := tableOf(t, set("a", 1), need("a", 1))
	free(t, x, 0)
	// What has left the table blocks nobody, and what is in it does.
	x.Add(ops(need("a", 1)))
	x.Add(ops(set("a", 1)))
	holds(t, x, []int{1, 2, 3}, []int{1, 2})
	free(t, x, 1, 2, 3)
	x.Add(ops(set("a", 1)))
	holds(t, x, []int{4}, []int{4})
}

func TestP18FreeErrors(t *testing.T) {
	x := tableOf(t, set("a", 1), set("a", 1), set("a", 1), set("b", 1))
	free(t, x, 0)
	for _, seq := range append(oddNumbers(), 0, 4) {
		if e := x.Free(seq); e != api.ErrNone {
			t.Errorf("Free(%d) = %d", seq, e)
		}
		if e := lock.New().Free(seq); e != api.ErrNone {
			t.Errorf("Free(%d) of an empty table = %d", seq, e)
		}
	}
	for range 3 {
		if e := x.Free(2); e != api.ErrWait {
			t.Error("Free of one that waits:", e)
		}
	}
	holds(t, x, []int{1, 2, 3}, []int{1, 3})
	free(t, x, 1)
	if e := x.Free(1); e != api.ErrNone {
		t.Error("Free of one that was removed:", e)
	}
	holds(t, x, []int{2, 3}, []int{2, 3})
}

func TestP18Left(t *testing.T) {
	x := lock.New()
	for i := range 10 {
		if x.Left() != i {
			t.Errorf("Left() = %d after %d were added", x.Left(), i)
		}
		x.Add(ops(set(strings.Repeat("a", 1+i%6), i), need("b", 1)))
	}
	for i := range 10 {
		if x.Left() != 10-i {
			t.Errorf("Left() = %d after %d were removed", x.Left(), i)
		}
		free(t, x, i)
	}
	if x.Left() != 0 {
		t.Error("Left() at the end:", x.Left())
	}
}
