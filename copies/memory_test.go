package copies_test

import (
	"slices"
	"testing"

	"ropery/api"
	"ropery/copies"
)

// roomy returns a copy of l whose spare capacity is filled, so that a write to it shows.
func roomy[T any](l []T, with T) []T {
	return append(slices.Clone(l), with, with, with)[:len(l)]
}

func roomyMap(m api.Map) api.Map {
	return api.Map{Cuts: roomy(m.Cuts, "spare"), Owners: roomy(m.Owners, 11)}
}

func roomyPairs(l []api.Pair) []api.Pair { return roomy(l, api.Pair{Key: "spare", Value: 12}) }

func roomyEntry(x api.Entry) api.Entry {
	return api.Entry{Deed: api.Deed{Ops: roomy(x.Deed.Ops, set("spare", 13))}, IsMap: x.IsMap, Map: roomyMap(x.Map)}
}

// whole returns l with its spare capacity.
func whole[T any](l []T) []T { return l[:cap(l)] }

// wholeEntry returns x with the spare capacity of its lists.
func wholeEntry(x api.Entry) api.Entry {
	return api.Entry{
		Deed:  api.Deed{Ops: whole(x.Deed.Ops)},
		IsMap: x.IsMap,
		Map:   api.Map{Cuts: whole(x.Map.Cuts), Owners: whole(x.Map.Owners)},
	}
}

// spoil overwrites l and its spare capacity.
func spoil[T any](l []T, with T) {
	l = whole(l)
	for i := range l {
		l[i] = with
	}
}

func spoilMap(m api.Map) {
	spoil(m.Cuts, "spoilt")
	spoil(m.Owners, -77)
}

func spoilPairs(l []api.Pair) { spoil(l, api.Pair{Key: "spoilt", Value: -77}) }

func spoilEntry(x api.Entry) {
	spoil(x.Deed.Ops, set("spoilt", -77))
	spoilMap(x.Map)
}

// spoilDones turns all results round, with the spare capacity.
func spoilDones(l []bool) {
	l = whole(l)
	for i := range l {
		l[i] = !l[i]
	}
}

// memoryLog are entries with maps, aborts and ignored fields.
func memoryLog() []api.Entry {
	return []api.Entry{
		deedEntry(move("z", "a", 3), cpy("b", "z")),
		deedEntry(set("c", 1), move("z", "a", 3)),
		mapEntry(2, "b", 3, "c", 0),
		deedEntry(add("a", 1), need("b", 3), set("q", 4)),
		{IsMap: true, Deed: ops(set("a", 9)), Map: mapOf(1)},
		{Deed: ops(set("m", 6)), Map: mapOf(3)},
	}
}

// memoryDones are the results of memoryLog, from a 5 on.
func memoryDones() []bool { return []bool{true, false, true, true, true, true} }

// filled has two replicas that have executed memoryLog and one that has executed nothing.
func filled(t *testing.T) *copies.Copies {
	t.Helper()
	c := copying(t, 1, 3, mapOf(0, "m", 1), pairs("a", 5))
	adds(t, c, 0, memoryLog()...)
	closes(t, c, 0, 1)
	steps(t, c, 0, memoryDones()...)
	steps(t, c, 1, memoryDones()...)
	return c
}

// stays checks that filled has its state.
func stays(t *testing.T, c *copies.Copies) {
	t.Helper()
	for i := range 2 {
		has(t, c, i, mapOf(1), pairs("a", 3, "b", 3, "m", 6, "q", 4, "z", 3), memoryDones()...)
	}
	has(t, c, 2, mapOf(0, "m", 1), pairs("a", 5))
}

func TestP2NewKeepsNoArgument(t *testing.T) {
	for _, m := range []api.Map{mapOf(0), mapOf(0, "m", 1), mapOf(3, "b", 2, "c", 1, "n", 3)} {
		for _, l := range [][]api.Pair{nil, {}, pairs("a", 1), pairs("a", 1, "b", 2, "m", 3, "z", 4)} {
			argM, argL, beforeM, beforeL := roomyMap(m), roomyPairs(l), roomyMap(m), roomyPairs(l)
			c := copying(t, 1, 2, argM, argL)
			adds(t, c, 0, deedEntry(set("a", 5), set("n", 6), add("z", 1)), mapEntry(1, "b", 0))
			closes(t, c, 0, 1)
			steps(t, c, 1, true, true)
			takes(t, c, 0, 1)
			same := slices.Equal(whole(argM.Cuts), whole(beforeM.Cuts)) && slices.Equal(whole(argM.Owners), whole(beforeM.Owners))
			if !same || !slices.Equal(whole(argL), whole(beforeL)) {
				t.Errorf("an argument of New(%v, %v) was changed", m, l)
			}
			c = copying(t, 1, 2, argM, argL)
			spoilMap(argM)
			spoilPairs(argL)
			has(t, c, 0, m, l)
			takes(t, c, 0, 1)
			has(t, c, 0, m, l)
			has(t, c, 1, m, l)
		}
	}
}

func TestP2ArgumentsStayOnErrors(t *testing.T) {
	for _, x := range badMaps() {
		for _, y := range badStores() {
			argM, argL, beforeM, beforeL := roomyMap(x.m), roomyPairs(y.l), roomyMap(x.m), roomyPairs(y.l)
			copies.New(1, 1, argM, argL)
			copies.New(1, 1, mapOf(0), argL)
			copies.New(0, 1, argM, argL)
			copies.New(1, 0, argM, argL)
			same := slices.Equal(whole(argM.Cuts), whole(beforeM.Cuts)) && slices.Equal(whole(argM.Owners), whole(beforeM.Owners))
			if !same || !slices.Equal(whole(argL), whole(beforeL)) {
				t.Errorf("an argument was changed: %v or %v", x.m, y.l)
			}
		}
	}
}

// Arguments of Add stay as they are and are overwritten, before a replica
// executes them and between the replicas.
func TestP2AddKeepsNoArgument(t *testing.T) {
	c := copying(t, 1, 3, mapOf(0, "m", 1), pairs("a", 5))
	var args []api.Entry
	for _, x := range memoryLog() {
		arg := roomyEntry(x)
		adds(t, c, 0, arg)
		args = append(args, arg)
	}
	closes(t, c, 0, 1)
	steps(t, c, 0, memoryDones()...)
	for k, x := range memoryLog() {
		if !equalEntry(wholeEntry(args[k]), wholeEntry(roomyEntry(x))) {
			t.Errorf("the argument %v was changed", x)
		}
		spoilEntry(args[k])
	}
	steps(t, c, 1, memoryDones()...)
	stays(t, c)
	for _, x := range badEntries() {
		arg := roomyEntry(x.x)
		c.Add(0, arg)
		if !equalEntry(wholeEntry(arg), wholeEntry(roomyEntry(x.x))) {
			t.Errorf("the argument %v was changed", x.x)
		}
	}
}

// Results are overwritten, and neither the state nor another result changes.
func TestP2ResultsAreNew(t *testing.T) {
	c := filled(t)
	for i := range 3 {
		otherDones, _ := c.Done(i)
		otherAll, _ := c.All(i)
		want, wantAll := slices.Clone(otherDones), slices.Clone(otherAll)
		dones, _ := c.Done(i)
		spoilDones(dones)
		all, _ := c.All(i)
		spoilPairs(all)
		for owner := range 4 {
			other, _ := c.Part(i, owner)
			before := slices.Clone(other)
			part, _ := c.Part(i, owner)
			spoilPairs(part)
			if !slices.Equal(other, before) {
				t.Errorf("two results of Part(%d, %d) share memory", i, owner)
			}
		}
		if !slices.Equal(otherDones, want) || !slices.Equal(otherAll, wantAll) {
			t.Errorf("two results share memory: %v, %v", otherDones, otherAll)
		}
	}
	for _, x := range c.Log() {
		spoilEntry(x)
	}
	spoil(c.Log(), mapEntry(-77))
	spoil(c.Waits(), -77)
	merges(t, c, 1, []int{0}, c.Log()...)
	stays(t, c)
	steps(t, c, 2, memoryDones()...)
	has(t, c, 2, mapOf(1), pairs("a", 3, "b", 3, "m", 6, "q", 4, "z", 3), memoryDones()...)
}

// The replicas share no results after Take.
func TestP2ResultsAreNewAfterTake(t *testing.T) {
	c := filled(t)
	steps(t, c, 2, true, false)
	takes(t, c, 2, 1)
	for i := range 3 {
		dones, _ := c.Done(i)
		spoilDones(dones)
		all, _ := c.All(i)
		spoilPairs(all)
		part, _ := c.Part(i, 1)
		spoilPairs(part)
		for k := range 3 {
			has(t, c, k, mapOf(1), pairs("a", 3, "b", 3, "m", 6, "q", 4, "z", 3), memoryDones()...)
		}
	}
}

// What was returned stays as it is when the state changes.
func TestP2ResultsStay(t *testing.T) {
	c := filled(t)
	steps(t, c, 2, true)
	dones, _ := c.Done(2)
	all, _ := c.All(2)
	part, _ := c.Part(2, 0)
	log, waiting := c.Log(), c.Waits()
	steps(t, c, 2, memoryDones()[1:]...)
	dones2, _ := c.Done(2)
	takes(t, c, 2, 0)
	adds(t, c, 0, deedEntry(set("a", 0), set("b", 0)))
	closes(t, c, 0, 2)
	steps(t, c, 2, true)
	takes(t, c, 0, 2)
	if !slices.Equal(dones, []bool{true}) || !slices.Equal(dones2, memoryDones()) {
		t.Errorf("results changed with the state: %v, %v", dones, dones2)
	}
	if !slices.Equal(all, pairs("a", 2, "b", 3, "z", 3)) || !slices.Equal(part, all[:2]) {
		t.Errorf("results changed with the state: %v, %v", all, part)
	}
	if len(log) != 6 || !equalEntry(log[0], memoryLog()[0]) || !equalEntry(log[4], mapEntry(1)) || !slices.Equal(waiting, []int{0}) {
		t.Errorf("results changed with the state: %v, %v", log, waiting)
	}
}

// Two Copies from the same arguments go their own ways.
func TestP2StatesAreApart(t *testing.T) {
	m, l := mapOf(0, "m", 1), pairs("a", 5)
	c, other := copying(t, 1, 2, m, l), copying(t, 1, 2, m, l)
	adds(t, c, 0, mapEntry(2), deedEntry(move("z", "a", 5)))
	closes(t, c, 0, 1)
	steps(t, c, 0, true, true)
	merges(t, other, 0, []int{0})
	waits(t, other, 0)
	has(t, other, 0, m, l)
	adds(t, other, 0, deedEntry(set("b", 1)))
	closes(t, other, 0, 1)
	steps(t, other, 1, true)
	has(t, other, 1, m, pairs("a", 5, "b", 1), true)
	has(t, c, 0, mapOf(2), pairs("z", 5), true, true)
	has(t, c, 1, m, l)
}

// Calls that only ask change nothing.
func TestP2AskingChangesNothing(t *testing.T) {
	c := filled(t)
	for range 70 {
		stays(t, c)
		merges(t, c, 1, []int{0}, c.Log()...)
	}
	steps(t, c, 2, memoryDones()...)
}

func TestP2EmptyAndNilAreTheSame(t *testing.T) {
	for _, l := range [][]api.Pair{nil, {}} {
		for _, cuts := range [][]string{nil, {}} {
			m := api.Map{Cuts: cuts, Owners: []int{1}}
			c := copying(t, 1, 2, m, l)
			has(t, c, 0, m, nil)
			adds(t, c, 0, api.Entry{IsMap: true, Map: m}, api.Entry{Deed: ops(set("a", 1)), Map: api.Map{Cuts: cuts}})
			closes(t, c, 0, 1)
			steps(t, c, 0, true, true)
			takes(t, c, 1, 0)
			has(t, c, 1, m, pairs("a", 1), true, true)
		}
	}
}
