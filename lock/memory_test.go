package lock_test

import (
	"slices"
	"testing"

	"ropery/api"
	"ropery/lock"
)

// roomyDeed returns a copy of a transaction whose spare capacity is filled, so that a write to it shows.
func roomyDeed(d api.Deed) api.Deed {
	fill := set("spare", 11)
	return api.Deed{Ops: append(slices.Clone(d.Ops), fill, fill, fill)[:len(d.Ops)]}
}

// whole returns l with its spare capacity.
func whole[T any](l []T) []T { return l[:cap(l)] }

// spoil overwrites l and its spare capacity.
func spoil[T any](l []T, with T) {
	l = whole(l)
	for i := range l {
		l[i] = with
	}
}

func TestP2AddLeavesItsArgumentAndKeepsNone(t *testing.T) {
	x := lock.New()
	for i, d := range []api.Deed{
		ops(set("b", 1), need("a", 1)),
		ops(need("b", 1)),
		ops(need("c", 1), set("a", 1)),
		ops(need("c", 1)),
		ops(add("e", 1), move("g", "f", 1)),
	} {
		arg := roomyDeed(d)
		before := slices.Clone(whole(arg.Ops))
		if seq, e := x.Add(arg); seq != i || e != api.OK {
			t.Fatalf("Add(%v) = %d, %d", d, seq, e)
		}
		if !slices.Equal(whole(arg.Ops), before) {
			t.Errorf("Add(%v) changed its argument", d)
		}
		spoil(arg.Ops, set("q", 1))
	}
	holds(t, x, []int{0, 1, 2, 3, 4}, []int{0, 3, 4})
	free(t, x, 0)
	holds(t, x, []int{1, 2, 3, 4}, []int{1, 2, 3, 4})
}

func TestP2AddLeavesAnArgumentThatIsNotValid(t *testing.T) {
	for _, bad := range badDeeds() {
		arg := roomyDeed(bad.d)
		before := slices.Clone(whole(arg.Ops))
		lock.New().Add(arg)
		if !slices.Equal(whole(arg.Ops), before) {
			t.Errorf("Add(%v) changed its argument", bad.d)
		}
	}
}

func TestP2ReadyReturnsNewMemory(t *testing.T) {
	x := tableOf(t, set("a", 1), set("b", 1), set("a", 1), set("c", 1), need("d", 1))
	first, second := x.Ready(), x.Ready()
	spoil(first, 2)
	if !slices.Equal(second, []int{0, 1, 3, 4}) {
		t.Error("two results share memory:", second)
	}
	holds(t, x, []int{0, 1, 2, 3, 4}, []int{0, 1, 3, 4})
	free(t, x, 0)
	if !slices.Equal(second, []int{0, 1, 3, 4}) {
		t.Error("Free changed a result of Ready:", second)
	}
}

// Calls that only ask, or that return an error, leave the table as it is.
func TestP2AskingChangesNothing(t *testing.T) {
	x := tableOf(t, need("a", 1), set("a", 1), set("b", 1))
	for range 3 {
		holds(t, x, []int{0, 1, 2}, []int{0, 2})
	}
	if seq, e := x.Add(ops(set("c", 1))); seq != 3 || e != api.OK {
		t.Error("Add after asking:", seq, e)
	}
}
