package deed_test

import (
	"math"
	"slices"
	"strings"
	"testing"

	"ropery/api"
	"ropery/deed"
)

// pairs builds a list from keys and values in turn.
func pairs(words ...any) []api.Pair {
	var l []api.Pair
	for i := 0; i < len(words); i += 2 {
		l = append(l, api.Pair{Key: words[i].(string), Value: words[i+1].(int)})
	}
	return l
}

func set(key string, n int) api.Op        { return api.Op{Kind: api.Set, Key: key, N: n} }
func add(key string, n int) api.Op        { return api.Op{Kind: api.Add, Key: key, N: n} }
func cpy(key, from string) api.Op         { return api.Op{Kind: api.Copy, Key: key, From: from} }
func need(key string, n int) api.Op       { return api.Op{Kind: api.Need, Key: key, N: n} }
func move(key, from string, n int) api.Op { return api.Op{Kind: api.Move, Key: key, From: from, N: n} }

func ops(l ...api.Op) api.Deed { return api.Deed{Ops: l} }

// times is a transaction of n equal operations.
func times(n int, op api.Op) api.Deed { return api.Deed{Ops: slices.Repeat([]api.Op{op}, n)} }

// badDeed is a transaction that is not valid, with the error that Check returns.
type badDeed struct {
	name string
	d    api.Deed
	want api.Errno
}

func badDeeds() []badDeed {
	bad := []badDeed{
		{"no operations", ops(), api.ErrLarge},
		{"empty list", api.Deed{Ops: []api.Op{}}, api.ErrLarge},
		{"9 operations", times(9, set("a", 1)), api.ErrLarge},
		{"1000 operations", times(1000, set("a", 1)), api.ErrLarge},
		{"9 operations without form", times(9, api.Op{}), api.ErrLarge},
		{"9 operations with bad values", times(9, set("a", api.MaxValue+1)), api.ErrLarge},
		{"zero operation", ops(api.Op{}), api.ErrForm},
		{"kind before value", ops(api.Op{Kind: 9, Key: "a", N: math.MaxInt}), api.ErrForm},
		{"key before value", ops(set("A", api.MaxValue+1)), api.ErrForm},
		{"key before negative move", ops(move("A", "b", -1)), api.ErrForm},
		{"from before negative move", ops(move("a", "B", -1)), api.ErrForm},
		{"same key before negative move", ops(move("a", "a", -1)), api.ErrForm},
		{"from before value", ops(move("a", "", api.MaxValue+1)), api.ErrForm},
		{"negative move", ops(move("a", "b", -1)), api.ErrArg},
		{"least negative move", ops(move("a", "b", -api.MaxValue)), api.ErrArg},
		{"first operation decides: value", ops(set("a", api.MaxValue+1), set("A", 1)), api.ErrArg},
		{"first operation decides: form", ops(set("A", 1), set("a", api.MaxValue+1)), api.ErrForm},
		{"second operation: value", ops(set("a", 1), move("a", "b", -1), api.Op{}), api.ErrArg},
		{"last of 8", ops(append(times(7, set("a", 1)).Ops, set("", 1))...), api.ErrForm},
	}
	for _, kind := range []int{0, 6, 7, -1, 255, 256, 257, 1<<32 + 1, math.MaxInt, math.MinInt} {
		bad = append(bad, badDeed{"kind", ops(api.Op{Kind: kind, Key: "a", From: "b", N: 1}), api.ErrForm})
	}
	for _, key := range []string{"", "A", "aaaaaaa", "a b", "a1", "a\x00", "é", "\xff", "`", "{", strings.Repeat("a", 1000)} {
		for kind := api.Set; kind <= api.Move; kind++ {
			bad = append(bad, badDeed{"key", ops(api.Op{Kind: kind, Key: key, From: "b", N: 1}), api.ErrForm})
		}
		bad = append(bad, badDeed{"from of Copy", ops(cpy("a", key)), api.ErrForm}, badDeed{"from of Move", ops(move("a", key, 1)), api.ErrForm})
	}
	for _, key := range []string{"a", "m", "zzzzzz"} {
		bad = append(bad, badDeed{"Copy to itself", ops(cpy(key, key)), api.ErrForm}, badDeed{"Move to itself", ops(move(key, key, 1)), api.ErrForm})
	}
	for _, n := range []int{api.MaxValue + 1, -api.MaxValue - 1, 1 << 32, math.MaxInt, math.MinInt} {
		for _, kind := range []int{api.Set, api.Add, api.Need, api.Move} {
			bad = append(bad, badDeed{"value", ops(api.Op{Kind: kind, Key: "a", From: "b", N: n}), api.ErrArg})
		}
	}
	return bad
}

func goodDeeds() []api.Deed {
	good := []api.Deed{
		times(1, set("a", 1)),
		times(8, move("a", "b", 1)),
		ops(set("a", 0), add("aaaaaa", 0), need("zzzzzz", 0), move("a", "aa", 0), cpy("ab", "ba")),
		ops(move("a", "b", api.MaxValue)),
		ops(set("a", 1), need("a", 1), cpy("b", "a"), add("b", 2), move("c", "b", 3)),
	}
	for _, n := range []int{api.MaxValue, -api.MaxValue, -1, 1} {
		good = append(good, ops(set("a", n), add("a", n), need("a", n)))
	}
	for _, n := range []int{api.MaxValue + 1, -api.MaxValue - 1, math.MaxInt, math.MinInt, -1} {
		good = append(good, ops(api.Op{Kind: api.Copy, Key: "a", From: "b", N: n}))
	}
	for _, kind := range []int{api.Set, api.Add, api.Need} {
		for _, from := range []string{"", "a", "A", "aaaaaaa", "\xff"} {
			good = append(good, ops(api.Op{Kind: kind, Key: "a", From: from, N: 1}))
		}
	}
	return good
}

func TestP10CheckAcceptsTransactions(t *testing.T) {
	for _, d := range goodDeeds() {
		if e := deed.Check(d); e != api.OK {
			t.Errorf("Check(%v) = %d", d, e)
		}
	}
	for n := 1; n <= 8; n++ {
		if e := deed.Check(times(n, set("a", 1))); e != api.OK {
			t.Errorf("%d operations: %d", n, e)
		}
	}
}

func TestP10CheckErrors(t *testing.T) {
	for _, bad := range badDeeds() {
		if e := deed.Check(bad.d); e != bad.want {
			t.Errorf("%s: Check(%v) = %d, want %d", bad.name, bad.d, e, bad.want)
		}
	}
}

func TestP11Keys(t *testing.T) {
	for _, c := range []struct {
		d             api.Deed
		reads, writes []string
	}{
		{ops(set("a", 1)), nil, []string{"a"}},
		{ops(add("a", 1)), []string{"a"}, []string{"a"}},
		{ops(cpy("a", "b")), []string{"b"}, []string{"a"}},
		{ops(need("a", 1)), []string{"a"}, nil},
		{ops(move("a", "b", 1)), []string{"a", "b"}, []string{"a", "b"}},
		{ops(move("b", "a", 1)), []string{"a", "b"}, []string{"a", "b"}},
		{ops(move("b", "a", 0)), []string{"a", "b"}, []string{"a", "b"}},
		{ops(add("a", 0)), []string{"a"}, []string{"a"}},
		{ops(set("b", 1), set("a", 1), set("b", 2), set("aa", 1)), nil, []string{"a", "aa", "b"}},
		{ops(need("b", 1), need("a", 1), need("b", 2), need("aa", 1)), []string{"a", "aa", "b"}, nil},
		{ops(set("a", 1), add("a", 1)), []string{"a"}, []string{"a"}},
		{ops(cpy("c", "d"), cpy("a", "d"), cpy("c", "b")), []string{"b", "d"}, []string{"a", "c"}},
		{ops(api.Op{Kind: api.Set, Key: "a", From: "x", N: 1}), nil, []string{"a"}},
		{ops(api.Op{Kind: api.Add, Key: "a", From: "x", N: 1}), []string{"a"}, []string{"a"}},
		{ops(api.Op{Kind: api.Need, Key: "a", From: "x", N: 1}), []string{"a"}, nil},
		{ops(move("a", "b", 1), move("c", "d", 1), move("e", "f", 1), move("g", "h", 1), move("p", "o", 1), move("n", "m", 1), move("l", "k", 1), move("j", "i", 1)),
			strings.Split("abcdefghijklmnop", ""), strings.Split("abcdefghijklmnop", "")},
	} {
		reads, writes, e := deed.Keys(c.d)
		if !slices.Equal(reads, c.reads) || !slices.Equal(writes, c.writes) || e != api.OK {
			t.Errorf("Keys(%v) = %v, %v, %d, want %v, %v", c.d, reads, writes, e, c.reads, c.writes)
		}
	}
}

func TestP11KeysErrors(t *testing.T) {
	for _, bad := range badDeeds() {
		if reads, writes, e := deed.Keys(bad.d); len(reads) != 0 || len(writes) != 0 || e != bad.want {
			t.Errorf("%s: Keys(%v) = %v, %v, %d, want %d", bad.name, bad.d, reads, writes, e, bad.want)
		}
	}
}

func TestP12RunExecutes(t *testing.T) {
	const most = api.MaxValue
	for _, c := range []struct {
		l    []api.Pair
		d    api.Deed
		want []api.Pair
	}{
		{nil, ops(set("a", 3)), pairs("a", 3)},
		{nil, ops(set("a", 0)), nil},
		{pairs("a", 1), ops(set("a", 0)), nil},
		{pairs("a", 1, "c", 2), ops(set("b", -5)), pairs("a", 1, "b", -5, "c", 2)},
		{nil, ops(set("a", most), set("b", -most)), pairs("a", most, "b", -most)},
		{pairs("a", 1), ops(add("a", 2)), pairs("a", 3)},
		{pairs("a", 1), ops(add("a", -1)), nil},
		{nil, ops(add("a", -1)), pairs("a", -1)},
		{pairs("a", 1), ops(add("a", most-1)), pairs("a", most)},
		{pairs("a", -1), ops(add("a", 1-most)), pairs("a", -most)},
		{pairs("a", most), ops(add("a", -most)), nil},
		{pairs("a", 1, "b", 2), ops(cpy("a", "b")), pairs("a", 2, "b", 2)},
		{pairs("a", 1), ops(cpy("a", "b")), nil},
		{nil, ops(cpy("a", "b")), nil},
		{pairs("b", -7), ops(api.Op{Kind: api.Copy, Key: "a", From: "b", N: math.MaxInt}), pairs("a", -7, "b", -7)},
		{pairs("a", 4), ops(need("a", 4)), pairs("a", 4)},
		{pairs("a", 5), ops(need("a", 4)), pairs("a", 5)},
		{nil, ops(need("a", 0)), nil},
		{pairs("a", -4), ops(need("a", -4)), pairs("a", -4)},
		{nil, ops(need("a", -most)), nil},
		{pairs("a", 4), ops(move("b", "a", 4)), pairs("b", 4)},
		{pairs("a", 5, "b", 1), ops(move("b", "a", 4)), pairs("a", 1, "b", 5)},
		{pairs("a", 1, "b", 5), ops(move("a", "b", 4)), pairs("a", 5, "b", 1)},
		{pairs("a", 4, "b", -4), ops(move("b", "a", 4)), nil},
		{pairs("a", 4, "b", -9), ops(move("b", "a", 1)), pairs("a", 3, "b", -8)},
		{nil, ops(move("b", "a", 0)), nil},
		{pairs("a", most), ops(move("b", "a", most)), pairs("b", most)},
		{pairs("a", 1, "b", most-1), ops(move("b", "a", 1)), pairs("b", most)},
		{nil, ops(set("a", 1), set("a", 2)), pairs("a", 2)},
		{nil, ops(set("a", 4), move("b", "a", 3), cpy("c", "b"), add("c", 1), need("c", 4)), pairs("a", 1, "b", 3, "c", 4)},
		{pairs("a", 1, "b", 2), ops(cpy("t", "a"), cpy("a", "b"), cpy("b", "t"), set("t", 0)), pairs("a", 2, "b", 1)},
		{pairs("a", most), ops(add("a", -1), add("a", 1)), pairs("a", most)},
		{pairs("a", 1), times(8, add("a", 1)), pairs("a", 9)},
		{pairs("a", 1), ops(api.Op{Kind: api.Add, Key: "a", From: "?", N: 1}), pairs("a", 2)},
	} {
		got, done, e := deed.Run(c.l, c.d)
		if !slices.Equal(got, c.want) || !done || e != api.OK {
			t.Errorf("Run(%v, %v) = %v, %v, %d, want %v", c.l, c.d, got, done, e, c.want)
		}
	}
}

func TestP12RunAborts(t *testing.T) {
	const most = api.MaxValue
	for _, c := range []struct {
		l []api.Pair
		d api.Deed
	}{
		{pairs("a", 3), ops(move("b", "a", 4))},
		{pairs("b", 9), ops(move("b", "a", 4))},
		{nil, ops(move("b", "a", 1))},
		{pairs("a", -1), ops(move("b", "a", 0))},
		{pairs("a", 1, "b", most), ops(move("b", "a", 1))},
		{pairs("a", most, "b", most), ops(move("b", "a", most))},
		{pairs("a", 3), ops(need("a", 4))},
		{nil, ops(need("a", 1))},
		{pairs("a", -1), ops(need("a", 0))},
		{pairs("a", -5), ops(need("a", -4))},
		{pairs("a", most), ops(add("a", 1))},
		{pairs("a", -most), ops(add("a", -1))},
		{pairs("a", most), ops(add("a", most))},
		// A value that is not valid in between counts, even if a later operation would mend it.
		{pairs("a", most), ops(add("a", 1), add("a", -1))},
		{pairs("a", most), ops(add("a", 1), set("a", 0))},
		{pairs("a", -most), ops(add("a", -1), set("a", 0))},
		{pairs("a", 3), ops(need("a", 4), set("a", 4))},
		{pairs("a", 3), ops(move("b", "a", 4), set("a", 4))},
		// What went before is undone.
		{pairs("a", 3), ops(set("b", 1), set("a", 0), need("a", 1))},
		{pairs("a", 3), ops(move("b", "a", 2), move("b", "a", 2))},
		{pairs("a", 3, "c", 5), ops(set("c", 0), add("a", 1), cpy("b", "a"), need("b", 5))},
		{nil, ops(set("a", 1), need("b", 1))},
		{pairs("a", 1), ops(append(times(7, add("a", 1)).Ops, need("a", 9))...)},
	} {
		got, done, e := deed.Run(c.l, c.d)
		if !slices.Equal(got, c.l) || done || e != api.OK {
			t.Errorf("Run(%v, %v) = %v, %v, %d, want an abort", c.l, c.d, got, done, e)
		}
	}
}

// badStore is a list that is not a store, with the error of store.Check.
type badStore struct {
	l    []api.Pair
	want api.Errno
}

func badStores() []badStore {
	return []badStore{
		{pairs("a", 0), api.ErrArg},
		{pairs("a", api.MaxValue+1), api.ErrArg},
		{pairs("A", 1), api.ErrForm},
		{pairs("b", 1, "a", 1), api.ErrForm},
		{pairs("a", 1, "a", 1), api.ErrForm},
		{pairs("b", 1, "q", 0), api.ErrArg},
	}
}

func TestP12RunErrors(t *testing.T) {
	good := pairs("a", 1, "b", 2)
	for _, bad := range badDeeds() {
		if got, done, e := deed.Run(good, bad.d); len(got) != 0 || done || e != bad.want {
			t.Errorf("%s: Run(%v, %v) = %v, %v, %d, want %d", bad.name, good, bad.d, got, done, e, bad.want)
		}
	}
	for _, x := range badStores() {
		for _, d := range goodDeeds() {
			if got, done, e := deed.Run(x.l, d); len(got) != 0 || done || e != x.want {
				t.Errorf("Run(%v, %v) = %v, %v, %d, want %d", x.l, d, got, done, e, x.want)
			}
		}
		for _, bad := range badDeeds() {
			if got, done, e := deed.Run(x.l, bad.d); len(got) != 0 || done || e != x.want {
				t.Errorf("Run(%v, %v) = %v, %v, %d, want %d", x.l, bad.d, got, done, e, x.want)
			}
		}
	}
	// An operation that is not valid is an error even behind one that aborts.
	if got, done, e := deed.Run(nil, ops(need("a", 1), set("A", 1))); len(got) != 0 || done || e != api.ErrForm {
		t.Error("abort before an error:", got, done, e)
	}
}

func TestP13Clash(t *testing.T) {
	for _, c := range []struct {
		a, b api.Deed
		want bool
	}{
		{ops(set("a", 1)), ops(set("a", 1)), true},
		{ops(set("a", 1)), ops(set("b", 1)), false},
		{ops(set("a", 1)), ops(need("a", 1)), true},
		{ops(set("a", 1)), ops(need("b", 1)), false},
		{ops(need("a", 1)), ops(need("a", 1)), false},
		{ops(set("a", 1)), ops(cpy("b", "a")), true},
		{ops(need("a", 1)), ops(cpy("b", "a")), false},
		{ops(need("b", 1)), ops(cpy("b", "a")), true},
		{ops(cpy("b", "a")), ops(cpy("c", "a")), false},
		{ops(cpy("b", "a")), ops(cpy("b", "c")), true},
		{ops(cpy("b", "a")), ops(cpy("c", "b")), true},
		{ops(cpy("b", "a")), ops(cpy("a", "b")), true},
		{ops(add("a", 0)), ops(need("a", 1)), true},
		{ops(add("a", 1)), ops(add("a", 1)), true},
		{ops(move("a", "b", 1)), ops(need("b", 1)), true},
		{ops(move("a", "b", 1)), ops(need("a", 1)), true},
		{ops(move("a", "b", 1)), ops(need("c", 1)), false},
		{ops(move("a", "b", 1)), ops(move("c", "d", 1)), false},
		{ops(move("a", "b", 1)), ops(move("c", "b", 1)), true},
		{ops(set("a", 1)), ops(set("aa", 1)), false},
		{ops(set("a", 1), set("m", 1), set("z", 1)), ops(need("b", 1), need("n", 1), need("z", 1)), true},
		{ops(set("m", 1)), ops(need("a", 1), need("m", 1), need("z", 1)), true},
		{ops(need("a", 1), need("b", 1), set("c", 1)), ops(need("a", 1), need("b", 1), set("d", 1)), false},
		{ops(need("a", 1), set("b", 1)), ops(need("b", 1), set("c", 1)), true},
		{ops(need("b", 1), set("a", 1)), ops(need("c", 1), set("b", 1)), true},
		{ops(api.Op{Kind: api.Set, Key: "a", From: "b", N: 1}), ops(set("b", 1)), false},
	} {
		if got, e := deed.Clash(c.a, c.b); got != c.want || e != api.OK {
			t.Errorf("Clash(%v, %v) = %v, %d, want %v", c.a, c.b, got, e, c.want)
		}
		if got, e := deed.Clash(c.b, c.a); got != c.want || e != api.OK {
			t.Errorf("Clash(%v, %v) = %v, %d, want %v", c.b, c.a, got, e, c.want)
		}
	}
}

func TestP13ClashErrors(t *testing.T) {
	good := ops(set("a", 1))
	for _, x := range badDeeds() {
		if got, e := deed.Clash(x.d, good); got || e != x.want {
			t.Errorf("%s: Clash(%v, %v) = %v, %d, want %d", x.name, x.d, good, got, e, x.want)
		}
		if got, e := deed.Clash(good, x.d); got || e != x.want {
			t.Errorf("%s: Clash(%v, %v) = %v, %d, want %d", x.name, good, x.d, got, e, x.want)
		}
		for _, y := range badDeeds() {
			if got, e := deed.Clash(x.d, y.d); got || e != x.want {
				t.Errorf("Clash(%v, %v) = %v, %d, want %d", x.d, y.d, got, e, x.want)
			}
		}
	}
}

func TestP14Serial(t *testing.T) {
	pay := ops(move("b", "a", 4))
	for _, c := range []struct {
		l    []api.Pair
		ds   []api.Deed
		want []api.Pair
		done []bool
	}{
		{nil, nil, nil, nil},
		{pairs("a", 1), nil, pairs("a", 1), nil},
		{pairs("a", 1), []api.Deed{}, pairs("a", 1), nil},
		{pairs("a", 9), []api.Deed{pay, pay, pay}, pairs("a", 1, "b", 8), []bool{true, true, false}},
		{pairs("a", 3), []api.Deed{pay, ops(add("a", 1)), pay}, pairs("b", 4), []bool{false, true, true}},
		{nil, []api.Deed{pay}, nil, []bool{false}},
		{nil, []api.Deed{ops(set("a", 1)), ops(cpy("b", "a")), ops(set("a", 2))}, pairs("a", 2, "b", 1), []bool{true, true, true}},
		{nil, []api.Deed{ops(set("a", 2)), ops(set("a", 5), need("b", 1)), ops(cpy("c", "a"))}, pairs("a", 2, "c", 2), []bool{true, false, true}},
	} {
		got, done, e := deed.Serial(c.l, c.ds)
		if !slices.Equal(got, c.want) || !slices.Equal(done, c.done) || e != api.OK {
			t.Errorf("Serial(%v, %v) = %v, %v, %d, want %v, %v", c.l, c.ds, got, done, e, c.want, c.done)
		}
	}
}

func TestP14SerialLimit(t *testing.T) {
	one := ops(add("a", 1))
	got, done, e := deed.Serial(nil, slices.Repeat([]api.Deed{one}, 60))
	if !slices.Equal(got, pairs("a", 60)) || !slices.Equal(done, slices.Repeat([]bool{true}, 60)) || e != api.OK {
		t.Error("60 transactions:", got, done, e)
	}
	for _, n := range []int{61, 1000} {
		if got, done, e := deed.Serial(nil, slices.Repeat([]api.Deed{one}, n)); len(got) != 0 || len(done) != 0 || e != api.ErrLarge {
			t.Error(n, "transactions:", got, done, e)
		}
	}
}

func TestP14SerialErrors(t *testing.T) {
	good, abort := ops(set("a", 1)), ops(need("x", 1))
	none, form, arg := ops(), ops(set("A", 1)), ops(move("a", "b", -1))
	many := func(n int, d api.Deed) []api.Deed { return slices.Repeat([]api.Deed{d}, n) }
	for _, c := range []struct {
		l    []api.Pair
		ds   []api.Deed
		want api.Errno
	}{
		{pairs("a", 0), nil, api.ErrArg},
		{pairs("A", 1), nil, api.ErrForm},
		{pairs("a", 0), many(61, good), api.ErrArg},
		{pairs("b", 1, "a", 1), many(61, none), api.ErrForm},
		{pairs("a", 0), many(1, form), api.ErrArg},
		{pairs("A", 1), many(1, arg), api.ErrForm},
		{pairs("a", 1), many(61, form), api.ErrLarge},
		{pairs("a", 1), many(61, arg), api.ErrLarge},
		{nil, many(60, none), api.ErrLarge},
		{nil, []api.Deed{form, arg, none}, api.ErrForm},
		{nil, []api.Deed{arg, form, none}, api.ErrArg},
		{nil, []api.Deed{none, form, arg}, api.ErrLarge},
		{pairs("a", 1), []api.Deed{good, abort, good, arg, form}, api.ErrArg},
		{pairs("a", 1), []api.Deed{good, abort, good, form, arg}, api.ErrForm},
		{pairs("a", 1), append(many(59, good), form), api.ErrForm},
	} {
		if got, done, e := deed.Serial(c.l, c.ds); len(got) != 0 || len(done) != 0 || e != c.want {
			t.Errorf("Serial(%v, %v) = %v, %v, %d, want %d", c.l, c.ds, got, done, e, c.want)
		}
	}
	for _, bad := range badDeeds() {
		if got, done, e := deed.Serial(pairs("a", 1), []api.Deed{good, bad.d}); len(got) != 0 || len(done) != 0 || e != bad.want {
			t.Errorf("%s: Serial = %v, %v, %d, want %d", bad.name, got, done, e, bad.want)
		}
	}
}
