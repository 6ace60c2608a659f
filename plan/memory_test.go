package plan_test

import (
	"slices"
	"testing"

	"ropery/api"
	"ropery/plan"
)

// roomy returns a copy of l whose spare capacity is filled, so that a write to it shows.
func roomy[T any](l []T, with T) []T {
	return append(slices.Clone(l), with, with, with)[:len(l)]
}

// roomyDeeds returns a copy of transactions with filled spare capacity.
func roomyDeeds(ds []api.Deed) []api.Deed {
	var l []api.Deed
	for _, d := range ds {
		l = append(l, api.Deed{Ops: roomy(d.Ops, set("spare", 11))})
	}
	return roomy(l, ops(set("spare", 12)))
}

// whole returns l with its spare capacity.
func whole[T any](l []T) []T { return l[:cap(l)] }

// spoil overwrites l and its spare capacity.
func spoil[T any](l []T, with T) {
	l = whole(l)
	for i := range l {
		l[i] = with
	}
}

// flat returns all operations of transactions, with all spare capacity.
func flat(ds []api.Deed) []api.Op {
	var l []api.Op
	for _, d := range whole(ds) {
		l = append(l, whole(d.Ops)...)
		l = append(l, api.Op{Kind: len(d.Ops)})
	}
	return l
}

// args are the arguments of all functions, with filled spare capacity.
type args struct {
	l            []api.Pair
	ds           []api.Deed
	picks, order []int
}

func (a args) roomy() args {
	return args{roomy(a.l, api.Pair{Key: "spare", Value: 13}), roomyDeeds(a.ds), roomy(a.picks, 14), roomy(a.order, 15)}
}

// spoil overwrites all arguments.
func (a args) spoil() {
	spoil(a.l, api.Pair{Key: "spoilt", Value: -77})
	for _, d := range a.ds {
		spoil(d.Ops, set("spoilt", -77))
	}
	spoil(a.ds, ops(set("spoilt", -77)))
	spoil(a.picks, -77)
	spoil(a.order, -77)
}

// same tells whether all arguments are equal, with their spare capacity.
func (a args) same(b args) bool {
	return slices.Equal(whole(a.l), whole(b.l)) && slices.Equal(flat(a.ds), flat(b.ds)) &&
		slices.Equal(whole(a.picks), whole(b.picks)) && slices.Equal(whole(a.order), whole(b.order))
}

// memoryArgs are lists that run, abort, are empty, or are not valid.
func memoryArgs() []args {
	var l []args
	stores := [][]api.Pair{nil, {}, pairs("a", 5), pairs("a", 5, "b", 1, "q", 3), pairs("A", 1)}
	lists := [][]api.Deed{
		nil,
		each(need("a", 0)),
		each(need("a", 9), set("b", 1)),
		each(set("b", 1), cpy("c", "b"), set("a", 2), move("a", "b", 1), need("q", 3)),
		{ops(set("b", 1), set("a", 2)), ops(set("q", 0), need("a", 9)), ops(add("d", 1), cpy("e", "d"))},
		each(set("b", 1), set("B", 1)),
		apart(60),
		apart(61),
	}
	for _, s := range stores {
		for _, ds := range lists {
			for _, picks := range [][]int{nil, {1}, {-1, 2, 0, 1, 4, 3, 2, 9}} {
				l = append(l, args{s, ds, picks, upTo(len(ds))}, args{s, ds, picks, reversed(len(ds))})
			}
		}
	}
	return append(l, args{nil, apart(3), nil, []int{0, 2}}, args{nil, apart(3), nil, []int{2, 1, 1}}, args{nil, apart(3), nil, []int{2, 3, 0}})
}

// aliases tells whether two lists share memory, with their spare capacity.
func aliases[T comparable](a, b []T) bool {
	a, b = whole(a), whole(b)
	for i := range a {
		for j := range b {
			if &a[i] == &b[j] {
				return true
			}
		}
	}
	return false
}

func TestP2PlayLeavesArgumentsAndReturnsNewMemory(t *testing.T) {
	for _, c := range memoryArgs() {
		arg, before := c.roomy(), c.roomy()
		l, executed, order, e := plan.Play(arg.l, arg.ds, arg.picks)
		l2, executed2, order2, f := plan.Play(arg.l, arg.ds, arg.picks)
		if !slices.Equal(l, l2) || !slices.Equal(executed, executed2) || !slices.Equal(order, order2) || e != f {
			t.Errorf("Play of %v: two calls have different results", c)
		}
		if aliases(l, arg.l) || aliases(order, arg.picks) || aliases(l, l2) || aliases(order, order2) || aliases(executed, executed2) {
			t.Errorf("Play of %v: a result shares memory", c)
		}
		spoil(l, api.Pair{Key: "spoilt", Value: -77})
		spoil(executed, true)
		spoil(order, -77)
		if !arg.same(before) {
			t.Errorf("Play of %v changed an argument or shares memory with it", c)
		}
		arg.spoil()
		l, executed, order, _ = plan.Play(c.l, c.ds, c.picks)
		if !slices.Equal(l, l2) || !slices.Equal(executed, executed2) || !slices.Equal(order, order2) {
			t.Errorf("Play of %v: a result changed with another one or with an argument", c)
		}
	}
}

func TestP2RoundsLeavesArgumentsAndReturnsNewMemory(t *testing.T) {
	for _, c := range memoryArgs() {
		arg, before := c.roomy(), c.roomy()
		first, e := plan.Rounds(arg.ds)
		second, f := plan.Rounds(arg.ds)
		if !slices.Equal(first, second) || e != f || aliases(first, second) {
			t.Errorf("Rounds of %v: two calls have different results or share memory", c)
		}
		spoil(first, -77)
		if !arg.same(before) {
			t.Errorf("Rounds of %v changed its argument", c)
		}
	}
}

func TestP2OrderLeavesArguments(t *testing.T) {
	for _, c := range memoryArgs() {
		arg, before := c.roomy(), c.roomy()
		first, e := plan.Order(arg.ds, arg.order)
		second, f := plan.Order(arg.ds, arg.order)
		if first != second || e != f {
			t.Errorf("Order of %v: two calls have different results", c)
		}
		if !arg.same(before) {
			t.Errorf("Order of %v changed an argument", c)
		}
	}
}
