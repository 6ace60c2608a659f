package deed_test

import (
	"slices"
	"testing"

	"ropery/api"
	"ropery/deed"
)

// roomy returns a copy of l whose spare capacity is filled, so that a write to it shows.
func roomy[T any](l []T, fill T) []T {
	return append(slices.Clone(l), fill, fill, fill)[:len(l)]
}

// roomyDeed returns a copy of a transaction with filled spare capacity.
func roomyDeed(d api.Deed) api.Deed {
	return api.Deed{Ops: roomy(d.Ops, set("spare", 11))}
}

// roomyDeeds returns a copy of transactions with filled spare capacity.
func roomyDeeds(ds []api.Deed) []api.Deed {
	var l []api.Deed
	for _, d := range ds {
		l = append(l, roomyDeed(d))
	}
	return roomy(l, ops(set("spare", 12)))
}

// whole returns l with its spare capacity.
func whole[T any](l []T) []T { return l[:cap(l)] }

// spoil overwrites l and its spare capacity.
func spoil[T any](l []T, with T) {
	l = whole(l)
	for i := range l {
		l[i] = with
	}
}

// flat returns all operations of transactions, with all spare capacity.
func flat(ds []api.Deed) []api.Op {
	var l []api.Op
	for _, d := range whole(ds) {
		l = append(l, whole(d.Ops)...)
		l = append(l, api.Op{Kind: len(d.Ops)})
	}
	return l
}

func spoilPairs(l []api.Pair)  { spoil(l, api.Pair{Key: "spoilt", Value: -77}) }
func spoilDeeds(ds []api.Deed) { spoil(ds, ops(set("spoilt", -77))) }

// memoryStores are stores with and without pairs.
func memoryStores() [][]api.Pair {
	return [][]api.Pair{nil, {}, pairs("a", 1), pairs("a", 5, "b", 1), pairs("a", 5, "b", 1, "q", 3), pairs("A", 1)}
}

// memoryDeeds are transactions that write, only read, abort, or are not valid.
func memoryDeeds() []api.Deed {
	return []api.Deed{
		ops(set("b", 1), set("a", 2)),
		ops(set("a", 0)),
		ops(need("a", 0)),
		ops(need("a", 0), need("b", 0)),
		ops(need("a", 9)),
		ops(set("q", 9), need("a", 9)),
		ops(move("b", "a", 1), move("b", "a", 1), add("c", 1), cpy("a", "b")),
		ops(cpy("b", "a"), cpy("b", "a"), cpy("a", "b")),
		ops(set("q", 1), set("A", 1)),
		ops(),
	}
}

func TestP2RunLeavesArgumentsAndReturnsNewMemory(t *testing.T) {
	for _, l := range memoryStores() {
		for _, d := range memoryDeeds() {
			argL, argD := roomy(l, api.Pair{Key: "spare", Value: 13}), roomyDeed(d)
			beforeL, beforeD := slices.Clone(whole(argL)), slices.Clone(whole(argD.Ops))
			first, _, _ := deed.Run(argL, argD)
			second, _, _ := deed.Run(argL, argD)
			kept := slices.Clone(second)
			spoilPairs(first)
			if !slices.Equal(whole(argL), beforeL) || !slices.Equal(whole(argD.Ops), beforeD) {
				t.Errorf("Run(%v, %v) changed an argument or shares memory with it", l, d)
			}
			spoilPairs(argL)
			spoil(argD.Ops, set("spoilt", -77))
			if !slices.Equal(second, kept) {
				t.Errorf("Run(%v, %v): the result changed with another one or with an argument", l, d)
			}
		}
	}
}

func TestP2KeysLeavesArgumentsAndReturnsNewMemory(t *testing.T) {
	for _, d := range memoryDeeds() {
		arg := roomyDeed(d)
		before := slices.Clone(whole(arg.Ops))
		reads, writes, _ := deed.Keys(arg)
		againReads, againWrites, _ := deed.Keys(arg)
		kept := slices.Clone(writes)
		spoil(reads, "spoilt")
		if !slices.Equal(writes, kept) {
			t.Errorf("Keys(%v): the two sets share memory", d)
		}
		spoil(writes, "spoilt")
		if !slices.Equal(whole(arg.Ops), before) {
			t.Errorf("Keys(%v) changed its argument", d)
		}
		if slices.Contains(againReads, "spoilt") || slices.Contains(againWrites, "spoilt") {
			t.Errorf("Keys(%v): two results share memory", d)
		}
	}
}

func TestP2SerialLeavesArgumentsAndReturnsNewMemory(t *testing.T) {
	good := memoryDeeds()[:8]
	for _, l := range memoryStores() {
		for _, ds := range [][]api.Deed{nil, {}, good, good[:1], good[2:4], good[4:6], memoryDeeds(), slices.Repeat(good, 9)} {
			argL, argDs := roomy(l, api.Pair{Key: "spare", Value: 13}), roomyDeeds(ds)
			beforeL, beforeDs := slices.Clone(whole(argL)), flat(argDs)
			first, firstDone, _ := deed.Serial(argL, argDs)
			second, secondDone, _ := deed.Serial(argL, argDs)
			kept, keptDone := slices.Clone(second), slices.Clone(secondDone)
			spoilPairs(first)
			for i := range firstDone {
				firstDone[i] = !firstDone[i]
			}
			if !slices.Equal(whole(argL), beforeL) || !slices.Equal(flat(argDs), beforeDs) {
				t.Errorf("Serial(%v, %v) changed an argument or shares memory with it", l, ds)
			}
			spoilPairs(argL)
			spoilDeeds(argDs)
			if !slices.Equal(second, kept) || !slices.Equal(secondDone, keptDone) {
				t.Errorf("Serial(%v, %v): the result changed with another one or with an argument", l, ds)
			}
		}
	}
}

func TestP2CheckAndClashLeaveArguments(t *testing.T) {
	for _, a := range memoryDeeds() {
		for _, b := range memoryDeeds() {
			argA, argB := roomyDeed(a), roomyDeed(b)
			beforeA, beforeB := slices.Clone(whole(argA.Ops)), slices.Clone(whole(argB.Ops))
			deed.Check(argA)
			deed.Clash(argA, argB)
			deed.Clash(argA, argA)
			if !slices.Equal(whole(argA.Ops), beforeA) || !slices.Equal(whole(argB.Ops), beforeB) {
				t.Errorf("Check or Clash of %v and %v changed an argument", a, b)
			}
		}
	}
}

// Empty and nil lists of pairs, operations and transactions are the same.
func TestP2EmptyAndNilAreTheSame(t *testing.T) {
	for _, d := range memoryDeeds() {
		a, doneA, e := deed.Run(nil, d)
		b, doneB, f := deed.Run([]api.Pair{}, d)
		if !slices.Equal(a, b) || doneA != doneB || e != f {
			t.Errorf("Run of %v: %v, %v, %d for nil, %v, %v, %d for an empty store", d, a, doneA, e, b, doneB, f)
		}
	}
	if e, f := deed.Check(api.Deed{}), deed.Check(api.Deed{Ops: []api.Op{}}); e != f {
		t.Error("Check:", e, f)
	}
}
