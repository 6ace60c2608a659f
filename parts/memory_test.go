package parts_test

import (
	"slices"
	"testing"

	"ropery/api"
	"ropery/parts"
)

// roomy returns a copy of l whose spare capacity is filled, so that a write to it shows.
func roomy[T any](l []T, with T) []T {
	return append(slices.Clone(l), with, with, with)[:len(l)]
}

func roomyMap(m api.Map) api.Map {
	return api.Map{Cuts: roomy(m.Cuts, "spare"), Owners: roomy(m.Owners, 11)}
}

func roomyPairs(l []api.Pair) []api.Pair { return roomy(l, api.Pair{Key: "spare", Value: 12}) }

func roomyDeed(d api.Deed) api.Deed { return api.Deed{Ops: roomy(d.Ops, set("spare", 13))} }

// whole returns l with its spare capacity.
func whole[T any](l []T) []T { return l[:cap(l)] }

// wholeMap returns m with the spare capacity of its lists.
func wholeMap(m api.Map) api.Map { return api.Map{Cuts: whole(m.Cuts), Owners: whole(m.Owners)} }

// spoil overwrites l and its spare capacity.
func spoil[T any](l []T, with T) {
	l = whole(l)
	for i := range l {
		l[i] = with
	}
}

func spoilMap(m api.Map) {
	spoil(m.Cuts, "spoilt")
	spoil(m.Owners, -77)
}

func spoilPairs(l []api.Pair) { spoil(l, api.Pair{Key: "spoilt", Value: -77}) }

// memoryMaps are maps that give the keys a, b, m and z to one, two and three owners.
func memoryMaps() []api.Map {
	return []api.Map{mapOf(0), mapOf(3), mapOf(0, "m", 1), mapOf(2, "b", 0, "m", 2), mapOf(1, "b", 2, "c", 3, "n", 1)}
}

func memoryStores() [][]api.Pair {
	return [][]api.Pair{nil, {}, pairs("a", 1), pairs("z", 1), pairs("a", 1, "b", 2, "m", 3, "z", 4)}
}

func TestP2NewKeepsNoArgument(t *testing.T) {
	for _, m := range memoryMaps() {
		for _, l := range memoryStores() {
			argM, argL, beforeM, beforeL := roomyMap(m), roomyPairs(l), roomyMap(m), roomyPairs(l)
			p := divided(t, argM, argL)
			p.Do(ops(set("a", 5), set("n", 6), add("z", 1)))
			p.Turn(mapOf(1, "b", 0))
			if !equal(wholeMap(argM), wholeMap(beforeM)) || !slices.Equal(whole(argL), whole(beforeL)) {
				t.Errorf("an argument of New(%v, %v) was changed", m, l)
			}
			p = divided(t, argM, argL)
			spoilMap(argM)
			spoilPairs(argL)
			has(t, p, m, l, partsOf(m, l))
		}
	}
}

func TestP2TurnKeepsNoArgument(t *testing.T) {
	l := pairs("a", 1, "b", 2, "m", 3, "z", 4)
	p := divided(t, mapOf(0), l)
	for _, m := range memoryMaps() {
		arg, before := roomyMap(m), roomyMap(m)
		if _, e := p.Turn(arg); e != api.OK {
			t.Fatalf("Turn(%v): %d", m, e)
		}
		p.Do(ops(add("q", 0)))
		if !equal(wholeMap(arg), wholeMap(before)) {
			t.Errorf("the argument of Turn(%v) was changed", m)
		}
		spoilMap(arg)
		has(t, p, m, l, partsOf(m, l))
		who(t, p, ops(cpy("a", "z")), whoOf(m, ops(cpy("a", "z")))...)
	}
}

func TestP2DeedsStay(t *testing.T) {
	p := divided(t, mapOf(0, "m", 1), pairs("a", 5))
	list := []api.Deed{ops(move("z", "a", 1), set("c", 1), cpy("b", "z")), ops(need("z", 1), set("a", 0), need("a", 1))}
	for _, bad := range badDeeds() {
		list = append(list, bad.d)
	}
	for _, d := range list {
		arg, before := roomyDeed(d), roomyDeed(d)
		p.Who(arg)
		p.Do(arg)
		if !slices.Equal(whole(arg.Ops), whole(before.Ops)) {
			t.Errorf("Who or Do changed its argument %v", d)
		}
	}
}

func TestP2ArgumentsStayOnErrors(t *testing.T) {
	p := divided(t, mapOf(0, "m", 1), pairs("a", 5))
	for _, x := range badMaps() {
		for _, y := range badStores() {
			argM, argL, beforeM, beforeL := roomyMap(x.m), roomyPairs(y.l), roomyMap(x.m), roomyPairs(y.l)
			parts.New(argM, argL)
			parts.New(mapOf(0), argL)
			p.Turn(argM)
			if !equal(wholeMap(argM), wholeMap(beforeM)) || !slices.Equal(whole(argL), whole(beforeL)) {
				t.Errorf("an argument was changed: %v or %v", x.m, y.l)
			}
		}
	}
}

// Results are overwritten, and neither the state nor another result changes.
func TestP2ResultsAreNew(t *testing.T) {
	d := ops(cpy("a", "z"), need("m", 1))
	for _, m := range memoryMaps() {
		for _, l := range memoryStores() {
			p := divided(t, m, l)
			otherAll, otherMap := p.All(), p.Map()
			otherWho, _ := p.Who(d)
			spoilPairs(p.All())
			spoilMap(p.Map())
			owners, _ := p.Who(d)
			spoil(owners, -77)
			for i, want := range partsOf(m, l) {
				other, _ := p.Part(i)
				part, _ := p.Part(i)
				spoilPairs(part)
				if !slices.Equal(other, want) {
					t.Errorf("two results of Part(%d) share memory: %v", i, other)
				}
			}
			if !slices.Equal(otherAll, l) || !equal(otherMap, m) || !slices.Equal(otherWho, whoOf(m, d)) {
				t.Errorf("two results share memory: %v, %v, %v", otherAll, otherMap, otherWho)
			}
			has(t, p, m, l, partsOf(m, l))
		}
	}
}

// What was returned stays as it is when the state changes.
func TestP2ResultsStay(t *testing.T) {
	m, l := mapOf(0, "m", 1), pairs("a", 5, "b", 1, "z", 1)
	p := divided(t, m, l)
	all, is := p.All(), p.Map()
	part, _ := p.Part(0)
	does(t, p, ops(set("a", 9), set("b", 0), set("c", 3), move("z", "a", 2)), true)
	p.Turn(mapOf(2, "b", 3))
	does(t, p, ops(set("a", 1), set("aa", 2)), true)
	if !slices.Equal(all, l) || !equal(is, m) || !slices.Equal(part, l[:2]) {
		t.Errorf("results changed with the state: %v, %v, %v", all, is, part)
	}
}

// Two partitioned stores from the same arguments go their own ways.
func TestP2StatesAreApart(t *testing.T) {
	m, l := mapOf(0, "m", 1), pairs("a", 5, "z", 1)
	p, q := divided(t, m, l), divided(t, m, l)
	does(t, p, ops(move("z", "a", 5), set("b", 1)), true)
	has(t, q, m, l, four{l[:1], l[1:]})
	if moved, e := q.Turn(mapOf(2)); moved != 2 || e != api.OK {
		t.Errorf("Turn = %d, %d, want 2", moved, e)
	}
	has(t, p, m, pairs("b", 1, "z", 6), four{pairs("b", 1), pairs("z", 6)})
}

// The same calls have the same results, and calls that only ask change nothing.
func TestP2AskingChangesNothing(t *testing.T) {
	m, l := mapOf(3, "b", 1), pairs("a", 5, "z", 1)
	p := divided(t, m, l)
	for range 3 {
		has(t, p, m, l, four{1: l[1:], 3: l[:1]})
		who(t, p, ops(move("z", "a", 5)), 1, 3)
	}
}

func TestP2EmptyAndNilAreTheSame(t *testing.T) {
	for _, l := range [][]api.Pair{nil, {}} {
		for _, cuts := range [][]string{nil, {}} {
			m := api.Map{Cuts: cuts, Owners: []int{1}}
			p := divided(t, m, l)
			has(t, p, mapOf(1), nil, four{})
			if moved, e := p.Turn(m); moved != 0 || e != api.OK {
				t.Errorf("Turn(%v) = %d, %d", m, moved, e)
			}
			does(t, p, ops(set("a", 1)), true)
			has(t, p, mapOf(1), pairs("a", 1), four{1: pairs("a", 1)})
		}
	}
}
