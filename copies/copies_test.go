package copies_test

import (
	"math"
	"slices"
	"strings"
	"testing"

	"ropery/api"
	"ropery/copies"
)

func set(key string, n int) api.Op        { return api.Op{Kind: api.Set, Key: key, N: n} }
func add(key string, n int) api.Op        { return api.Op{Kind: api.Add, Key: key, N: n} }
func cpy(key, from string) api.Op         { return api.Op{Kind: api.Copy, Key: key, From: from} }
func need(key string, n int) api.Op       { return api.Op{Kind: api.Need, Key: key, N: n} }
func move(key, from string, n int) api.Op { return api.Op{Kind: api.Move, Key: key, From: from, N: n} }

func ops(l ...api.Op) api.Deed { return api.Deed{Ops: l} }

// mapOf builds a map from owners and cuts in turn, with an owner at both ends.
func mapOf(words ...any) api.Map {
	var m api.Map
	for _, w := range words {
		switch x := w.(type) {
		case string:
			m.Cuts = append(m.Cuts, x)
		case int:
			m.Owners = append(m.Owners, x)
		}
	}
	return m
}

// pairs builds a list from keys and values in turn.
func pairs(words ...any) []api.Pair {
	var l []api.Pair
	for i := 0; i < len(words); i += 2 {
		l = append(l, api.Pair{Key: words[i].(string), Value: words[i+1].(int)})
	}
	return l
}

// letters returns n cuts: a, b, c and so on.
func letters(n int) []string {
	var l []string
	for i := range n {
		l = append(l, string([]byte{'a' + byte(i)}))
	}
	return l
}

func deedEntry(l ...api.Op) api.Entry { return api.Entry{Deed: ops(l...)} }
func mapEntry(words ...any) api.Entry { return api.Entry{IsMap: true, Map: mapOf(words...)} }

// times returns n equal entries.
func times(n int, x api.Entry) []api.Entry { return slices.Repeat([]api.Entry{x}, n) }

func equalEntry(a, b api.Entry) bool {
	return slices.Equal(a.Deed.Ops, b.Deed.Ops) && a.IsMap == b.IsMap &&
		slices.Equal(a.Map.Cuts, b.Map.Cuts) && slices.Equal(a.Map.Owners, b.Map.Owners)
}

func equalEntries(a, b []api.Entry) bool { return slices.EqualFunc(a, b, equalEntry) }

// badMap is a map that is not valid, with the error that shard.Check returns.
type badMap struct {
	m    api.Map
	want api.Errno
}

func badMaps() []badMap {
	return []badMap{
		{api.Map{}, api.ErrForm},
		{api.Map{Cuts: letters(13), Owners: make([]int, 14)}, api.ErrLarge},
		{api.Map{Cuts: make([]string, 13), Owners: slices.Repeat([]int{4}, 14)}, api.ErrLarge},
		{mapOf(0, 1), api.ErrForm},
		{mapOf(0, "m"), api.ErrForm},
		{mapOf(0, "M", 1), api.ErrForm},
		{mapOf(0, "m", 1, "m", 2), api.ErrForm},
		{mapOf(4, "m", 1, "b", 2), api.ErrForm},
		{mapOf(4), api.ErrArg},
		{mapOf(0, "m", -1), api.ErrArg},
	}
}

// badStore is a list that is not a store, with the error that store.Check returns.
type badStore struct {
	l    []api.Pair
	want api.Errno
}

func badStores() []badStore {
	return []badStore{
		{make([]api.Pair, 1), api.ErrForm},
		{pairs("A", 1), api.ErrForm},
		{pairs("a", 0), api.ErrArg},
		{pairs("a", 1, "z", api.MaxValue+1), api.ErrArg},
		{pairs("a", 1, "a", 1), api.ErrForm},
		{pairs("z", 1, "a", 1), api.ErrForm},
	}
}

// badEntry is an entry that is not valid, with the error that deed.Check or
// shard.Check returns.
type badEntry struct {
	x    api.Entry
	want api.Errno
}

func badEntries() []badEntry {
	l := []badEntry{
		{api.Entry{}, api.ErrLarge},
		{deedEntry(slices.Repeat([]api.Op{set("a", 1)}, 9)...), api.ErrLarge},
		{deedEntry(api.Op{}), api.ErrForm},
		{deedEntry(set("a", 1), set("A", 1)), api.ErrForm},
		{deedEntry(set("a", api.MaxValue+1)), api.ErrArg},
		{deedEntry(move("z", "a", -1)), api.ErrArg},
		{api.Entry{Deed: ops(set("A", 1)), Map: mapOf(4)}, api.ErrForm},
	}
	for _, bad := range badMaps() {
		l = append(l, badEntry{api.Entry{IsMap: true, Deed: ops(set("a", 1)), Map: bad.m}, bad.want})
	}
	return l
}

// bad are numbers of no input, replica or owner if there are n of them.
func bad(n int) []int {
	return []int{-1, -2, -n, n, n + 1, 256, -256, 1 << 32, 1<<32 + n - 1, -1 << 32, math.MaxInt, math.MinInt}
}

// four has the parts of the owners 0 to 3.
type four [4][]api.Pair

// partsOf divides a store by the owner of each key, which is that of the last
// cut which is not above it, or the first owner.
func partsOf(m api.Map, l []api.Pair) four {
	var x four
	for _, p := range l {
		owner := m.Owners[0]
		for i, cut := range m.Cuts {
			if cut <= p.Key {
				owner = m.Owners[i+1]
			}
		}
		x[owner] = append(x[owner], p)
	}
	return x
}

// copying returns Copies.
func copying(t *testing.T, inputs, n int, m api.Map, l []api.Pair) *copies.Copies {
	t.Helper()
	c, e := copies.New(inputs, n, m, l)
	if c == nil || e != api.OK {
		t.Fatalf("New(%d, %d, %v, %v) = %v, %d", inputs, n, m, l, c, e)
	}
	return c
}

func adds(t *testing.T, c *copies.Copies, i int, l ...api.Entry) {
	t.Helper()
	for _, x := range l {
		if e := c.Add(i, x); e != api.OK {
			t.Errorf("Add(%d, %v) = %d", i, x, e)
		}
	}
}

func closes(t *testing.T, c *copies.Copies, i, want int) {
	t.Helper()
	if n, e := c.Close(i); n != want || e != api.OK {
		t.Errorf("Close(%d) = %d, %d, want %d", i, n, e, want)
	}
}

// merges compares all that the Merge tells with what it should have.
func merges(t *testing.T, c *copies.Copies, rounds int, waits []int, log ...api.Entry) {
	t.Helper()
	if got := c.Rounds(); got != rounds {
		t.Errorf("Rounds() = %d, want %d", got, rounds)
	}
	if got := c.Waits(); !slices.Equal(got, waits) {
		t.Errorf("Waits() = %v, want %v", got, waits)
	}
	if got := c.Log(); !equalEntries(got, log) {
		t.Errorf("Log() = %v, want %v", got, log)
	}
}

// steps lets a replica execute one entry for each result that it should have.
func steps(t *testing.T, c *copies.Copies, i int, want ...bool) {
	t.Helper()
	for k, w := range want {
		if done, e := c.Step(i); done != w || e != api.OK {
			t.Errorf("step %d: Step(%d) = %v, %d, want %v", k, i, done, e, w)
		}
	}
}

// waits lets a replica execute an entry, of which there is none.
func waits(t *testing.T, c *copies.Copies, i int) {
	t.Helper()
	for range 2 {
		if done, e := c.Step(i); done || e != api.ErrWait {
			t.Errorf("Step(%d) = %v, %d, want ErrWait", i, done, e)
		}
	}
}

func takes(t *testing.T, c *copies.Copies, i, from int) {
	t.Helper()
	if e := c.Take(i, from); e != api.OK {
		t.Errorf("Take(%d, %d) = %d", i, from, e)
	}
}

// has compares all that a replica tells with what it should have: the pairs l,
// divided by m, and the results of its steps.
func has(t *testing.T, c *copies.Copies, i int, m api.Map, l []api.Pair, dones ...bool) {
	t.Helper()
	if got, e := c.Done(i); !slices.Equal(got, dones) || e != api.OK {
		t.Errorf("Done(%d) = %v, %d, want %v", i, got, e, dones)
	}
	if got, e := c.All(i); !slices.Equal(got, l) || e != api.OK {
		t.Errorf("All(%d) = %v, %d, want %v", i, got, e, l)
	}
	for owner, part := range partsOf(m, l) {
		if got, e := c.Part(i, owner); !slices.Equal(got, part) || e != api.OK {
			t.Errorf("Part(%d, %d) = %v, %d, want %v", i, owner, got, e, part)
		}
	}
	for _, owner := range bad(4) {
		if got, e := c.Part(i, owner); len(got) != 0 || e != api.ErrArg {
			t.Errorf("Part(%d, %d) = %v, %d, want ErrArg", i, owner, got, e)
		}
	}
}

// hasNone makes all calls for a replica i that is not there, of Copies with n
// replicas.
func hasNone(t *testing.T, c *copies.Copies, i, n int) {
	t.Helper()
	if done, e := c.Step(i); done || e != api.ErrNone {
		t.Errorf("Step(%d) of %d = %v, %d, want ErrNone", i, n, done, e)
	}
	if got, e := c.Done(i); len(got) != 0 || e != api.ErrNone {
		t.Errorf("Done(%d) of %d = %v, %d, want ErrNone", i, n, got, e)
	}
	if got, e := c.All(i); len(got) != 0 || e != api.ErrNone {
		t.Errorf("All(%d) of %d = %v, %d, want ErrNone", i, n, got, e)
	}
	for _, owner := range append(bad(4), 0, 1, 2, 3) {
		if got, e := c.Part(i, owner); len(got) != 0 || e != api.ErrNone {
			t.Errorf("Part(%d, %d) of %d = %v, %d, want ErrNone", i, owner, n, got, e)
		}
	}
	for _, x := range [][2]int{{i, 0}, {i, n - 1}, {0, i}, {n - 1, i}, {i, i}, {i, -1}, {n, i}} {
		if e := c.Take(x[0], x[1]); e != api.ErrNone {
			t.Errorf("Take(%d, %d) of %d = %d, want ErrNone", x[0], x[1], n, e)
		}
	}
}

func TestP46New(t *testing.T) {
	l := pairs("a", 1, "b", 2, "m", 3, "z", 4)
	large := api.Map{Cuts: letters(12), Owners: []int{3, 0, 1, 2, 3, 0, 1, 2, 3, 0, 1, 2, 3}}
	for _, m := range []api.Map{mapOf(0), mapOf(3, "b", 1), mapOf(2, "b", 0, "m", 2), mapOf(1, "c", 1), large} {
		for _, l := range [][]api.Pair{nil, l[:1], l} {
			for inputs := 1; inputs <= 4; inputs++ {
				for n := 1; n <= 4; n++ {
					c := copying(t, inputs, n, m, l)
					merges(t, c, 0, []int{0, 1, 2, 3}[:inputs])
					for i := range n {
						waits(t, c, i)
						has(t, c, i, m, l)
					}
					hasNone(t, c, n, n)
				}
			}
		}
	}
}

// The numbers of inputs and replicas are not mixed up.
func TestP46InputsAndReplicas(t *testing.T) {
	c := copying(t, 1, 3, mapOf(0), nil)
	if e := c.Add(1, deedEntry(set("a", 1))); e != api.ErrNone {
		t.Errorf("Add(1) of one input = %d, want ErrNone", e)
	}
	if n, e := c.Close(1); n != 0 || e != api.ErrNone {
		t.Errorf("Close(1) of one input = %d, %d, want ErrNone", n, e)
	}
	adds(t, c, 0, deedEntry(set("a", 1)))
	closes(t, c, 0, 1)
	steps(t, c, 2, true)
	c = copying(t, 3, 1, mapOf(0), nil)
	adds(t, c, 2, deedEntry(set("a", 1)))
	for i := range 3 {
		closes(t, c, i, 1)
	}
	steps(t, c, 0, true)
	hasNone(t, c, 1, 1)
}

// The numbers are checked before the map, and the map before the store.
func TestP46Errors(t *testing.T) {
	fails := func(inputs, n int, m api.Map, l []api.Pair, want api.Errno) {
		t.Helper()
		if c, e := copies.New(inputs, n, m, l); c != nil || e != want {
			t.Errorf("New(%d, %d, %v, %v) = %v, %d, want %d", inputs, n, m, l, c, e, want)
		}
	}
	m, l := mapOf(0, "m", 1), pairs("a", 1)
	for _, k := range append(bad(5), 0) {
		for _, other := range []int{1, 4, 0, 5, k} {
			fails(k, other, m, l, api.ErrArg)
			fails(other, k, m, l, api.ErrArg)
			for _, x := range badMaps() {
				fails(k, other, x.m, l, api.ErrArg)
				fails(other, k, x.m, l, api.ErrArg)
			}
			for _, y := range badStores() {
				fails(k, other, m, y.l, api.ErrArg)
				fails(other, k, m, y.l, api.ErrArg)
			}
		}
	}
	for k := 1; k <= 4; k++ {
		for _, y := range badStores() {
			fails(k, 5-k, m, y.l, y.want)
			for _, x := range badMaps() {
				fails(k, 5-k, x.m, l, x.want)
				fails(k, 5-k, x.m, y.l, x.want)
			}
		}
	}
}

// The example of chapter 8, with the errors of its methods.
func TestP46MergeMethods(t *testing.T) {
	one, two, three := deedEntry(set("a", 1)), deedEntry(set("a", 2)), mapEntry(2)
	c := copying(t, 2, 2, mapOf(0), nil)
	adds(t, c, 1, one)
	adds(t, c, 0, two)
	closes(t, c, 1, 1)
	adds(t, c, 1, api.Entry{IsMap: true, Deed: ops(set("A", 1)), Map: mapOf(2)})
	merges(t, c, 0, []int{0})
	closes(t, c, 0, 1)
	merges(t, c, 1, []int{0, 1}, two, one)
	closes(t, c, 1, 2)
	merges(t, c, 1, []int{0}, two, one)
	closes(t, c, 0, 2)
	merges(t, c, 2, []int{0, 1}, two, one, three)
	for _, x := range badEntries() {
		if e := c.Add(0, x.x); e != x.want {
			t.Errorf("Add(0, %v) = %d, want %d", x.x, e, x.want)
		}
		for _, i := range bad(2) {
			if e := c.Add(i, x.x); e != api.ErrNone {
				t.Errorf("Add(%d, %v) = %d, want ErrNone", i, x.x, e)
			}
		}
	}
	for _, i := range bad(2) {
		if n, e := c.Close(i); n != 0 || e != api.ErrNone {
			t.Errorf("Close(%d) = %d, %d, want ErrNone", i, n, e)
		}
	}
	merges(t, c, 2, []int{0, 1}, two, one, three)
}

// Executing entries makes no room for others.
func TestP46Limits(t *testing.T) {
	c := copying(t, 2, 1, mapOf(0), nil)
	for k := range 60 {
		adds(t, c, k%2, deedEntry(add("a", 1)))
		closes(t, c, 0, k+1)
		closes(t, c, 1, k+1)
		steps(t, c, 0, true)
	}
	for i := range 2 {
		if e := c.Add(i, deedEntry(set("a", 1))); e != api.ErrLarge {
			t.Errorf("Add(%d) of entry 61 = %d, want ErrLarge", i, e)
		}
		if n, e := c.Close(i); n != 0 || e != api.ErrLarge {
			t.Errorf("Close(%d) of batch 61 = %d, %d, want ErrLarge", i, n, e)
		}
	}
	merges(t, c, 60, []int{0, 1}, times(60, deedEntry(add("a", 1)))...)
	waits(t, c, 0)
	has(t, c, 0, mapOf(0), pairs("a", 60), slices.Repeat([]bool{true}, 60)...)
}

// One batch has all entries, and a replica executes them to the last one.
func TestP47SixtyInOneRound(t *testing.T) {
	c := copying(t, 1, 4, mapOf(0), pairs("a", 40))
	adds(t, c, 0, times(60, deedEntry(move("b", "a", 1)))...)
	closes(t, c, 0, 1)
	dones := slices.Concat(slices.Repeat([]bool{true}, 40), slices.Repeat([]bool{false}, 20))
	steps(t, c, 3, dones...)
	waits(t, c, 3)
	has(t, c, 3, mapOf(0), pairs("b", 40), dones...)
	has(t, c, 0, mapOf(0), pairs("a", 40))
}

// Each entry starts from the result of the one before.
func TestP47Step(t *testing.T) {
	first := mapOf(0, "m", 1)
	c := copying(t, 1, 1, first, pairs("a", 5, "z", 1))
	for k, x := range []struct {
		x    api.Entry
		done bool
		m    api.Map
		l    []api.Pair
	}{
		{deedEntry(move("z", "a", 3)), true, first, pairs("a", 2, "z", 4)},
		{deedEntry(move("z", "a", 3)), false, first, pairs("a", 2, "z", 4)},
		{deedEntry(set("b", 7), need("z", 5)), false, first, pairs("a", 2, "z", 4)},
		{mapEntry(2, "b", 3), true, mapOf(2, "b", 3), pairs("a", 2, "z", 4)},
		// This map moves nothing, and the next one is the same again.
		{mapEntry(2, "c", 3), true, mapOf(2, "c", 3), pairs("a", 2, "z", 4)},
		{mapEntry(2, "c", 3), true, mapOf(2, "c", 3), pairs("a", 2, "z", 4)},
		{deedEntry(cpy("b", "z"), set("a", 0)), true, mapOf(2, "c", 3), pairs("b", 4, "z", 4)},
		{deedEntry(set("b", api.MaxValue), add("b", 1)), false, mapOf(2, "c", 3), pairs("b", 4, "z", 4)},
		{deedEntry(need("b", 4)), true, mapOf(2, "c", 3), pairs("b", 4, "z", 4)},
		{mapEntry(1), true, mapOf(1), pairs("b", 4, "z", 4)},
		{deedEntry(set("b", 0), set("z", 0)), true, mapOf(1), nil},
		{mapEntry(0), true, mapOf(0), nil},
		{deedEntry(need("q", 1)), false, mapOf(0), nil},
	} {
		before, _ := c.Done(0)
		adds(t, c, 0, x.x)
		waits(t, c, 0)
		closes(t, c, 0, k+1)
		steps(t, c, 0, x.done)
		waits(t, c, 0)
		has(t, c, 0, x.m, x.l, append(before, x.done)...)
		if t.Failed() {
			t.Fatalf("entry %d", k)
		}
	}
}

// Entries are executed in the order of the log, not in that of their arrival,
// and not before their round is complete.
func TestP47StepGoesByTheLog(t *testing.T) {
	m := mapOf(0)
	c := copying(t, 3, 1, m, pairs("a", 1))
	adds(t, c, 2, deedEntry(set("a", 3)))
	adds(t, c, 1, deedEntry(need("a", 2)))
	adds(t, c, 0, deedEntry(set("a", 2)))
	waits(t, c, 0)
	closes(t, c, 2, 1)
	adds(t, c, 2, deedEntry(need("a", 4)))
	closes(t, c, 0, 1)
	adds(t, c, 0, deedEntry(add("a", 1)))
	closes(t, c, 0, 2)
	closes(t, c, 2, 2)
	waits(t, c, 0)
	has(t, c, 0, m, pairs("a", 1))
	closes(t, c, 1, 1)
	steps(t, c, 0, true, true)
	has(t, c, 0, m, pairs("a", 2), true, true)
	// The log grows while the replica is in the middle of it.
	adds(t, c, 1, deedEntry(move("b", "a", 1)))
	closes(t, c, 1, 2)
	steps(t, c, 0, true)
	has(t, c, 0, m, pairs("a", 3), true, true, true)
	steps(t, c, 0, true, true, false)
	waits(t, c, 0)
	has(t, c, 0, m, pairs("a", 3, "b", 1), true, true, true, true, true, false)
}

// An empty round has nothing to execute.
func TestP47EmptyRounds(t *testing.T) {
	c := copying(t, 2, 2, mapOf(1), nil)
	for k := range 3 {
		closes(t, c, 0, k+1)
		closes(t, c, 1, k+1)
		waits(t, c, 0)
		waits(t, c, 1)
		has(t, c, 0, mapOf(1), nil)
	}
}

// Each replica goes its own way, and the steps change nothing in the log.
func TestP47ReplicasAreApart(t *testing.T) {
	m, l := mapOf(0, "m", 1), pairs("a", 3)
	c := copying(t, 1, 4, m, l)
	log := []api.Entry{deedEntry(move("z", "a", 2)), deedEntry(move("z", "a", 2)), mapEntry(3)}
	adds(t, c, 0, log...)
	closes(t, c, 0, 1)
	steps(t, c, 2, true, false, true)
	steps(t, c, 0, true)
	steps(t, c, 3, true, false)
	for range 2 {
		has(t, c, 0, m, pairs("a", 1, "z", 2), true)
		has(t, c, 1, m, l)
		has(t, c, 2, mapOf(3), pairs("a", 1, "z", 2), true, false, true)
		has(t, c, 3, m, pairs("a", 1, "z", 2), true, false)
		waits(t, c, 2)
	}
	merges(t, c, 1, []int{0}, log...)
	steps(t, c, 1, true, false, true)
	has(t, c, 1, mapOf(3), pairs("a", 1, "z", 2), true, false, true)
}

// There is no such replica: with nothing to execute, with something left, and
// with all executed.
func TestP47P48P49NoSuchReplica(t *testing.T) {
	for n := 1; n <= 4; n++ {
		c := copying(t, 4, n, mapOf(0), pairs("a", 1))
		none := func() {
			t.Helper()
			for _, i := range bad(n) {
				hasNone(t, c, i, n)
			}
		}
		none()
		adds(t, c, 3, deedEntry(set("b", 1)))
		for i := range 4 {
			closes(t, c, i, 1)
		}
		none()
		for i := range n {
			has(t, c, i, mapOf(0), pairs("a", 1))
			steps(t, c, i, true)
		}
		none()
		for i := range n {
			waits(t, c, i)
			has(t, c, i, mapOf(0), pairs("a", 1, "b", 1), true)
		}
	}
}

// The owner is checked after the replica.
func TestP48PartErrors(t *testing.T) {
	c := copying(t, 1, 2, mapOf(0, "m", 3), pairs("a", 1, "z", 2))
	has(t, c, 1, mapOf(0, "m", 3), pairs("a", 1, "z", 2))
	for _, owner := range append(bad(4), 0, 3) {
		if got, e := c.Part(2, owner); len(got) != 0 || e != api.ErrNone {
			t.Errorf("Part(2, %d) = %v, %d, want ErrNone", owner, got, e)
		}
	}
}

// taking has two replicas that have executed all of a log with maps and an
// abort, and two that have executed nothing.
func taking(t *testing.T) *copies.Copies {
	t.Helper()
	c := copying(t, 2, 4, mapOf(0, "m", 1), pairs("a", 5))
	adds(t, c, 0, deedEntry(move("z", "a", 3)), mapEntry(2, "b", 3))
	adds(t, c, 1, deedEntry(move("z", "a", 3)), deedEntry(set("b", 1)))
	closes(t, c, 0, 1)
	closes(t, c, 1, 1)
	steps(t, c, 0, true, true, false, true)
	steps(t, c, 3, true, true, false, true)
	return c
}

func TestP49Take(t *testing.T) {
	first, then := mapOf(0, "m", 1), mapOf(2, "b", 3)
	c := taking(t)
	log := c.Log()
	takes(t, c, 1, 0)
	has(t, c, 1, then, pairs("a", 2, "b", 1, "z", 3), true, true, false, true)
	has(t, c, 0, then, pairs("a", 2, "b", 1, "z", 3), true, true, false, true)
	has(t, c, 2, first, pairs("a", 5))
	merges(t, c, 1, []int{0, 1}, log...)
	// Both replicas go on from there, the other one too.
	adds(t, c, 0, deedEntry(set("a", 0), set("c", 2)), deedEntry(need("a", 1)))
	closes(t, c, 0, 2)
	closes(t, c, 1, 2)
	steps(t, c, 1, true, false)
	waits(t, c, 1)
	has(t, c, 1, then, pairs("b", 1, "c", 2, "z", 3), true, true, false, true, true, false)
	has(t, c, 0, then, pairs("a", 2, "b", 1, "z", 3), true, true, false, true)
	steps(t, c, 0, true)
	has(t, c, 0, then, pairs("b", 1, "c", 2, "z", 3), true, true, false, true, true)
	takes(t, c, 2, 1)
	has(t, c, 2, then, pairs("b", 1, "c", 2, "z", 3), true, true, false, true, true, false)
}

// A replica in the middle of the log is taken over as it is there.
func TestP49TakeInTheMiddle(t *testing.T) {
	first := mapOf(0, "m", 1)
	c := taking(t)
	steps(t, c, 1, true)
	takes(t, c, 2, 1)
	has(t, c, 1, first, pairs("a", 2, "z", 3), true)
	has(t, c, 2, first, pairs("a", 2, "z", 3), true)
	steps(t, c, 2, true, false)
	has(t, c, 1, first, pairs("a", 2, "z", 3), true)
	has(t, c, 2, mapOf(2, "b", 3), pairs("a", 2, "z", 3), true, true, false)
	takes(t, c, 1, 2)
	steps(t, c, 1, true)
	waits(t, c, 1)
	steps(t, c, 2, true)
	waits(t, c, 2)
	takes(t, c, 1, 2)
}

// A replica takes over an equal one, and itself, without an effect.
func TestP49TakeOfEquals(t *testing.T) {
	then := mapOf(2, "b", 3)
	c := taking(t)
	for range 2 {
		takes(t, c, 3, 0)
		takes(t, c, 0, 3)
		takes(t, c, 0, 0)
		takes(t, c, 1, 1)
		takes(t, c, 2, 1)
		has(t, c, 0, then, pairs("a", 2, "b", 1, "z", 3), true, true, false, true)
		has(t, c, 3, then, pairs("a", 2, "b", 1, "z", 3), true, true, false, true)
		has(t, c, 1, mapOf(0, "m", 1), pairs("a", 5))
		has(t, c, 2, mapOf(0, "m", 1), pairs("a", 5))
	}
	steps(t, c, 1, true)
	takes(t, c, 1, 1)
	has(t, c, 1, mapOf(0, "m", 1), pairs("a", 2, "z", 3), true)
}

func TestP49Errors(t *testing.T) {
	c := taking(t)
	steps(t, c, 1, true, true, false)
	fails := func(i, from int) {
		t.Helper()
		if e := c.Take(i, from); e != api.ErrWait {
			t.Errorf("Take(%d, %d) = %d, want ErrWait", i, from, e)
		}
	}
	fails(0, 1)
	fails(3, 1)
	fails(0, 2)
	fails(1, 2)
	has(t, c, 0, mapOf(2, "b", 3), pairs("a", 2, "b", 1, "z", 3), true, true, false, true)
	has(t, c, 1, mapOf(2, "b", 3), pairs("a", 2, "z", 3), true, true, false)
	has(t, c, 2, mapOf(0, "m", 1), pairs("a", 5))
	for _, i := range bad(4) {
		hasNone(t, c, i, 4)
	}
	steps(t, c, 1, true)
	takes(t, c, 0, 1)
	fails(1, 2)
}

// P1: odd arguments in Copies of any state end in a return. The zero value has
// no inputs and no replicas.
func TestP1NoPanic(t *testing.T) {
	var zero copies.Copies
	for _, c := range []*copies.Copies{&zero, copying(t, 1, 1, mapOf(3), nil), taking(t)} {
		for _, i := range append(bad(4), 0, 1, 2, 3) {
			for _, x := range badEntries() {
				c.Add(i, x.x)
			}
			c.Add(i, deedEntry(set("a", 1)))
			c.Add(i, mapEntry(1))
			c.Add(i, deedEntry(set(strings.Repeat("a", 1<<16), 1)))
			c.Close(i)
			c.Rounds()
			c.Log()
			c.Waits()
			for _, k := range append(bad(4), 0, 1, 2, 3) {
				c.Step(i)
				c.Done(i)
				c.All(i)
				c.Part(i, k)
				c.Take(i, k)
				copies.New(i, k, mapOf(1), nil)
			}
		}
	}
	merges(t, &zero, 0, nil)
	hasNone(t, &zero, 0, 0)
	if e := zero.Add(0, deedEntry(set("a", 1))); e != api.ErrNone {
		t.Errorf("Add to Copies without inputs = %d", e)
	}
	if n, e := zero.Close(0); n != 0 || e != api.ErrNone {
		t.Errorf("Close of Copies without inputs = %d, %d", n, e)
	}
}
