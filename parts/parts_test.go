package parts_test

import (
	"math"
	"slices"
	"strings"
	"testing"

	"ropery/api"
	"ropery/parts"
)

func set(key string, n int) api.Op        { return api.Op{Kind: api.Set, Key: key, N: n} }
func add(key string, n int) api.Op        { return api.Op{Kind: api.Add, Key: key, N: n} }
func cpy(key, from string) api.Op         { return api.Op{Kind: api.Copy, Key: key, From: from} }
func need(key string, n int) api.Op       { return api.Op{Kind: api.Need, Key: key, N: n} }
func move(key, from string, n int) api.Op { return api.Op{Kind: api.Move, Key: key, From: from, N: n} }

func ops(l ...api.Op) api.Deed { return api.Deed{Ops: l} }

// mapOf builds a map from owners and cuts in turn, with an owner at both ends.
func mapOf(words ...any) api.Map {
	var m api.Map
	for _, w := range words {
		switch x := w.(type) {
		case string:
			m.Cuts = append(m.Cuts, x)
		case int:
			m.Owners = append(m.Owners, x)
		}
	}
	return m
}

// pairs builds a list from keys and values in turn.
func pairs(words ...any) []api.Pair {
	var l []api.Pair
	for i := 0; i < len(words); i += 2 {
		l = append(l, api.Pair{Key: words[i].(string), Value: words[i+1].(int)})
	}
	return l
}

// letters returns n cuts: a, b, c and so on.
func letters(n int) []string {
	var l []string
	for i := range n {
		l = append(l, string([]byte{'a' + byte(i)}))
	}
	return l
}

func equal(a, b api.Map) bool {
	return slices.Equal(a.Cuts, b.Cuts) && slices.Equal(a.Owners, b.Owners)
}

// badMap is a map that is not valid, with the error that shard.Check returns.
type badMap struct {
	m    api.Map
	want api.Errno
}

func badMaps() []badMap {
	return []badMap{
		{api.Map{}, api.ErrForm},
		{api.Map{Cuts: []string{}, Owners: []int{}}, api.ErrForm},
		{api.Map{Cuts: letters(13), Owners: make([]int, 14)}, api.ErrLarge},
		{api.Map{Cuts: letters(13)}, api.ErrLarge},
		{api.Map{Cuts: make([]string, 13), Owners: slices.Repeat([]int{4}, 14)}, api.ErrLarge},
		{mapOf(0, 1), api.ErrForm},
		{mapOf(0, "m"), api.ErrForm},
		{mapOf(0, "", 1), api.ErrForm},
		{mapOf(0, "M", 1), api.ErrForm},
		{mapOf(0, "aaaaaaa", 1), api.ErrForm},
		{mapOf(0, "\xff", 1), api.ErrForm},
		{mapOf(0, "m", 1, "m", 2), api.ErrForm},
		{mapOf(0, "m", 1, "b", 2), api.ErrForm},
		{mapOf(4, "m", 1, "b", 2), api.ErrForm},
		{mapOf(4), api.ErrArg},
		{mapOf(-1), api.ErrArg},
		{mapOf(0, "m", 4), api.ErrArg},
		{mapOf(0, "m", math.MinInt, "n", 0), api.ErrArg},
		{mapOf(0, "m", 0, "n", math.MaxInt), api.ErrArg},
	}
}

// badStore is a list that is not a store, with the error that store.Check returns.
type badStore struct {
	l    []api.Pair
	want api.Errno
}

func badStores() []badStore {
	return []badStore{
		{make([]api.Pair, 1), api.ErrForm},
		{pairs("A", 1), api.ErrForm},
		{pairs("a", 1, "aaaaaaa", 1), api.ErrForm},
		{pairs("a", 0), api.ErrArg},
		{pairs("a", 1, "z", api.MaxValue+1), api.ErrArg},
		{pairs("a", 1, "z", -api.MaxValue-1), api.ErrArg},
		{pairs("a", 1, "a", 1), api.ErrForm},
		{pairs("z", 1, "a", 1), api.ErrForm},
		{pairs("z", 1, "a", 0), api.ErrArg},
	}
}

// badDeed is a transaction that is not valid, with the error that deed.Check returns.
type badDeed struct {
	d    api.Deed
	want api.Errno
}

func badDeeds() []badDeed {
	return []badDeed{
		{api.Deed{}, api.ErrLarge},
		{api.Deed{Ops: []api.Op{}}, api.ErrLarge},
		{ops(slices.Repeat([]api.Op{set("a", 1)}, 9)...), api.ErrLarge},
		{api.Deed{Ops: make([]api.Op, 9)}, api.ErrLarge},
		{api.Deed{Ops: make([]api.Op, 1)}, api.ErrForm},
		{ops(api.Op{Kind: 6, Key: "a", From: "b", N: 1}), api.ErrForm},
		{ops(set("A", 1)), api.ErrForm},
		{ops(set("a", 1), set("", 1)), api.ErrForm},
		{ops(set("a", 1), cpy("a", "")), api.ErrForm},
		{ops(set("a", 1), move("z", "z", 1)), api.ErrForm},
		{ops(set("a", 1), set("z", api.MaxValue+1)), api.ErrArg},
		{ops(set("a", 1), move("z", "a", -1)), api.ErrArg},
		{ops(add("a", math.MinInt), set("A", 1)), api.ErrArg},
		// An operation that aborts comes first, and still the error is returned.
		{ops(need("q", 1), set("A", 1)), api.ErrForm},
	}
}

// badOwners are numbers of no owner.
func badOwners() []int {
	return []int{-1, -2, -4, 4, 5, 256, -256, 1 << 32, 1<<32 + 1, math.MaxInt, math.MinInt}
}

// divided returns a partitioned store.
func divided(t *testing.T, m api.Map, l []api.Pair) *parts.Parts {
	t.Helper()
	p, e := parts.New(m, l)
	if p == nil || e != api.OK {
		t.Fatalf("New(%v, %v) = %v, %d", m, l, p, e)
	}
	return p
}

// four has the parts of the owners 0 to 3.
type four [4][]api.Pair

// has compares all that a partitioned store tells with what it should have.
func has(t *testing.T, p *parts.Parts, m api.Map, all []api.Pair, want four) {
	t.Helper()
	if got := p.Map(); !equal(got, m) {
		t.Errorf("Map() = %v, want %v", got, m)
	}
	if got := p.All(); !slices.Equal(got, all) {
		t.Errorf("All() = %v, want %v", got, all)
	}
	for i, part := range want {
		if got, e := p.Part(i); !slices.Equal(got, part) || e != api.OK {
			t.Errorf("Part(%d) = %v, %d, want %v", i, got, e, part)
		}
	}
	for _, i := range badOwners() {
		if got, e := p.Part(i); len(got) != 0 || e != api.ErrArg {
			t.Errorf("Part(%d) = %v, %d, want ErrArg", i, got, e)
		}
	}
}

func TestP28NewDivides(t *testing.T) {
	l := pairs("a", 1, "az", 2, "b", 3, "ba", -4, "m", 5, "zzzzzz", 6)
	for _, c := range []struct {
		m    api.Map
		l    []api.Pair
		want four
	}{
		{mapOf(0), nil, four{}},
		{mapOf(3, "m", 2), nil, four{}},
		{mapOf(0), l, four{l}},
		{mapOf(3), l, four{3: l}},
		{mapOf(0, "b", 1), l, four{l[:2], l[2:]}},
		{mapOf(1, "b", 0), l, four{l[2:], l[:2]}},
		{mapOf(2, "a", 1), l, four{1: l}},
		{mapOf(3, "b", 2, "ba", 1, "m", 0), l, four{l[4:], l[3:4], l[2:3], l[:2]}},
		{mapOf(1, "az", 3, "ba", 1, "n", 3), l, four{1: pairs("a", 1, "ba", -4, "m", 5), 3: pairs("az", 2, "b", 3, "zzzzzz", 6)}},
		{mapOf(0, "bb", 0, "n", 1), l, four{l[:5], l[5:]}},
		{mapOf(0, "c", 1, "d", 2, "l", 3), l, four{l[:4], nil, nil, l[4:]}},
	} {
		has(t, divided(t, c.m, c.l), c.m, c.l, c.want)
	}
}

func TestP28LargestMap(t *testing.T) {
	m := api.Map{Cuts: letters(12), Owners: []int{3, 0, 1, 2, 3, 0, 1, 2, 3, 0, 1, 2, 3}}
	l := pairs("a", 1, "b", 2, "c", 3, "d", 4, "e", 5, "l", 6, "m", 7)
	has(t, divided(t, m, l), m, l, four{pairs("a", 1, "e", 5), pairs("b", 2), pairs("c", 3), pairs("d", 4, "l", 6, "m", 7)})
}

// The map is checked before the store.
func TestP28Errors(t *testing.T) {
	for _, x := range badMaps() {
		if p, e := parts.New(x.m, pairs("a", 1)); p != nil || e != x.want {
			t.Errorf("New(%v, a store) = %v, %d, want %d", x.m, p, e, x.want)
		}
		for _, y := range badStores() {
			if p, e := parts.New(x.m, y.l); p != nil || e != x.want {
				t.Errorf("New(%v, %v) = %v, %d, want %d", x.m, y.l, p, e, x.want)
			}
		}
	}
	for _, y := range badStores() {
		for _, m := range []api.Map{mapOf(0), mapOf(3), mapOf(0, "m", 1), mapOf(2, "a", 2)} {
			if p, e := parts.New(m, y.l); p != nil || e != y.want {
				t.Errorf("New(%v, %v) = %v, %d, want %d", m, y.l, p, e, y.want)
			}
		}
	}
}

// who compares the participants of a transaction with those that it should have.
func who(t *testing.T, p *parts.Parts, d api.Deed, want ...int) {
	t.Helper()
	if got, e := p.Who(d); !slices.Equal(got, want) || e != api.OK {
		t.Errorf("Who(%v) = %v, %d, want %v", d, got, e, want)
	}
}

func TestP29Who(t *testing.T) {
	p := divided(t, mapOf(2, "b", 0, "c", 3, "d", 1, "e", 2), pairs("a", 1, "d", 1))
	for _, key := range []string{"a", "az", "e", "ezz", "zzzzzz"} {
		who(t, p, ops(set(key, 1)), 2)
	}
	for _, key := range []string{"b", "ba", "bzzzzz"} {
		who(t, p, ops(add(key, 1)), 0)
	}
	who(t, p, ops(need("c", 1)), 3)
	who(t, p, ops(cpy("c", "d")), 1, 3)
	who(t, p, ops(cpy("d", "c")), 1, 3)
	who(t, p, ops(move("a", "b", 1)), 0, 2)
	who(t, p, ops(move("b", "a", 1)), 0, 2)
	who(t, p, ops(move("a", "e", 1)), 2)
	who(t, p, ops(set("c", 1), set("c", 2), need("c", 1)), 3)
	who(t, p, ops(set("e", 1), need("d", 1), add("c", 1), set("b", 1)), 0, 1, 2, 3)
	who(t, p, ops(move("c", "d", 1), cpy("b", "e"), set("a", 1), set("cc", 0)), 0, 1, 2, 3)
	who(t, p, ops(need("d", 1), set("b", 1)), 0, 1)
	who(t, p, ops(need("b", 1), set("d", 1)), 0, 1)
}

// The participants are those of the keys, whatever their values are.
func TestP29WhoIgnoresValuesAndAborts(t *testing.T) {
	for _, l := range [][]api.Pair{nil, pairs("a", 1), pairs("a", 1, "z", 1)} {
		p := divided(t, mapOf(0, "m", 1), l)
		who(t, p, ops(need("a", 5), set("z", 1)), 0, 1)
		who(t, p, ops(set("z", 0)), 1)
		who(t, p, ops(add("a", 0)), 0)
		who(t, p, ops(move("z", "a", 0)), 0, 1)
		who(t, p, ops(add("a", api.MaxValue), add("a", api.MaxValue)), 0)
		has(t, p, mapOf(0, "m", 1), l, four{l[:min(1, len(l))], l[min(1, len(l)):]})
	}
}

// From is ignored for Set, Add and Need.
func TestP29WhoIgnoresOtherFields(t *testing.T) {
	p := divided(t, mapOf(0, "m", 1), nil)
	for _, kind := range []int{api.Set, api.Add, api.Need} {
		for _, from := range []string{"z", "a", "", "Z"} {
			who(t, p, ops(api.Op{Kind: kind, Key: "b", From: from, N: 1}), 0)
		}
	}
	who(t, p, ops(api.Op{Kind: api.Copy, Key: "b", From: "c", N: math.MaxInt}), 0)
}

func TestP29WhoIsOfTheCurrentMap(t *testing.T) {
	p := divided(t, mapOf(0, "m", 1), nil)
	d := ops(cpy("a", "z"))
	who(t, p, d, 0, 1)
	for _, c := range []struct {
		m    api.Map
		want []int
	}{
		{mapOf(3), []int{3}},
		{mapOf(2, "b", 1), []int{1, 2}},
		{mapOf(1, "b", 2, "y", 1), []int{1}},
		{mapOf(0, "a", 3), []int{3}},
	} {
		if _, e := p.Turn(c.m); e != api.OK {
			t.Fatalf("Turn(%v): %d", c.m, e)
		}
		who(t, p, d, c.want...)
	}
}

func TestP29P30Errors(t *testing.T) {
	m, l := mapOf(0, "m", 1), pairs("a", 1, "z", 2)
	p := divided(t, m, l)
	for _, bad := range badDeeds() {
		if got, e := p.Who(bad.d); len(got) != 0 || e != bad.want {
			t.Errorf("Who(%v) = %v, %d, want %d", bad.d, got, e, bad.want)
		}
		if done, e := p.Do(bad.d); done || e != bad.want {
			t.Errorf("Do(%v) = %v, %d, want %d", bad.d, done, e, bad.want)
		}
		has(t, p, m, l, four{l[:1], l[1:]})
	}
}

// does executes a transaction and compares the result with the one that it should have.
func does(t *testing.T, p *parts.Parts, d api.Deed, want bool) {
	t.Helper()
	if done, e := p.Do(d); done != want || e != api.OK {
		t.Errorf("Do(%v) = %v, %d, want %v", d, done, e, want)
	}
}

// Each transaction starts from the result of the one before.
func TestP30Do(t *testing.T) {
	m := mapOf(0, "m", 1)
	p := divided(t, m, pairs("a", 5, "z", 1))
	for _, c := range []struct {
		d        api.Deed
		done     bool
		of0, of1 []api.Pair
	}{
		{ops(move("z", "a", 3)), true, pairs("a", 2), pairs("z", 4)},
		{ops(move("z", "a", 3)), false, pairs("a", 2), pairs("z", 4)},
		{ops(set("m", 7)), true, pairs("a", 2), pairs("m", 7, "z", 4)},
		{ops(set("lzzzzz", 8)), true, pairs("a", 2, "lzzzzz", 8), pairs("m", 7, "z", 4)},
		{ops(cpy("b", "m"), cpy("n", "b")), true, pairs("a", 2, "b", 7, "lzzzzz", 8), pairs("m", 7, "n", 7, "z", 4)},
		{ops(set("b", 0), cpy("n", "b"), set("lzzzzz", 0)), true, pairs("a", 2), pairs("m", 7, "z", 4)},
		{ops(add("a", -2), add("z", -9)), true, nil, pairs("m", 7, "z", -5)},
		{ops(set("a", 1), need("z", -4)), false, nil, pairs("m", 7, "z", -5)},
		{ops(set("a", 1), need("z", -5)), true, pairs("a", 1), pairs("m", 7, "z", -5)},
		{ops(set("z", api.MaxValue), add("z", 1)), false, pairs("a", 1), pairs("m", 7, "z", -5)},
		{ops(set("z", api.MaxValue), move("z", "a", 1)), false, pairs("a", 1), pairs("m", 7, "z", -5)},
		{ops(set("z", api.MaxValue), move("a", "z", 1)), true, pairs("a", 2), pairs("m", 7, "z", api.MaxValue-1)},
		{ops(need("q", 0)), true, pairs("a", 2), pairs("m", 7, "z", api.MaxValue-1)},
		{ops(need("q", 1)), false, pairs("a", 2), pairs("m", 7, "z", api.MaxValue-1)},
		{ops(set("m", 0), move("b", "z", api.MaxValue-1), set("a", 0)), true, pairs("b", api.MaxValue-1), nil},
		{ops(set("b", 0)), true, nil, nil},
	} {
		does(t, p, c.d, c.done)
		has(t, p, m, slices.Concat(c.of0, c.of1), four{c.of0, c.of1})
		if t.Failed() {
			t.Fatalf("after Do(%v)", c.d)
		}
	}
}

// Parts of owners whose ranges alternate, so that the union is not one part behind the other.
func TestP30DoOnAlternatingRanges(t *testing.T) {
	m := mapOf(3, "b", 0, "c", 3, "d", 1, "e", 0)
	p := divided(t, m, pairs("a", 1, "b", 2, "c", 3, "d", 4, "e", 5))
	does(t, p, ops(move("a", "e", 5), move("c", "b", 1), add("d", 1), set("aa", 9), set("f", 9)), true)
	has(t, p, m, pairs("a", 6, "aa", 9, "b", 1, "c", 4, "d", 5, "f", 9),
		four{pairs("b", 1, "f", 9), pairs("d", 5), nil, pairs("a", 6, "aa", 9, "c", 4)})
}

func TestP30EightOperationsOfAllOwners(t *testing.T) {
	m := mapOf(0, "b", 1, "c", 2, "d", 3)
	p := divided(t, m, nil)
	does(t, p, ops(set("a", 8), move("b", "a", 7), move("c", "b", 6), move("d", "c", 5), need("d", 5), cpy("ab", "d"), add("bb", -1), set("dd", 2)), true)
	has(t, p, m, pairs("a", 1, "ab", 5, "b", 1, "bb", -1, "c", 1, "d", 5, "dd", 2),
		four{pairs("a", 1, "ab", 5), pairs("b", 1, "bb", -1), pairs("c", 1), pairs("d", 5, "dd", 2)})
}

func TestP31Turn(t *testing.T) {
	l := pairs("a", 1, "b", 2, "m", 3, "n", 4, "z", 5)
	p := divided(t, mapOf(0, "m", 1), l)
	for _, c := range []struct {
		m     api.Map
		moved int
		want  four
	}{
		{mapOf(0, "m", 1), 0, four{l[:2], l[2:]}},
		{mapOf(0, "c", 0, "m", 1, "q", 1), 0, four{l[:2], l[2:]}},
		{mapOf(0, "c", 1), 0, four{l[:2], l[2:]}},
		{mapOf(0, "c", 2, "d", 1), 0, four{l[:2], l[2:]}},
		{mapOf(0, "n", 1), 1, four{l[:3], l[3:]}},
		{mapOf(1, "n", 0), 5, four{l[3:], l[:3]}},
		{mapOf(1), 2, four{1: l}},
		{mapOf(2, "a", 1), 0, four{1: l}},
		{mapOf(3), 5, four{3: l}},
		{mapOf(3, "b", 2, "m", 1, "n", 0, "o", 3), 3, four{l[3:4], l[2:3], l[1:2], pairs("a", 1, "z", 5)}},
		{mapOf(2, "b", 3, "m", 1, "n", 0, "o", 2), 3, four{l[3:4], l[2:3], pairs("a", 1, "z", 5), l[1:2]}},
		{mapOf(0), 4, four{l}},
	} {
		if moved, e := p.Turn(c.m); moved != c.moved || e != api.OK {
			t.Errorf("Turn(%v) = %d, %d, want %d", c.m, moved, e, c.moved)
		}
		has(t, p, c.m, l, c.want)
	}
}

// Only keys that are in the store count.
func TestP31TurnCountsPairs(t *testing.T) {
	p := divided(t, mapOf(0, "m", 1), nil)
	if moved, e := p.Turn(mapOf(1, "m", 0)); moved != 0 || e != api.OK {
		t.Errorf("Turn of an empty store = %d, %d", moved, e)
	}
	does(t, p, ops(set("a", 1), set("b", 1), set("c", 1), set("z", 1)), true)
	does(t, p, ops(set("b", 0), move("a", "c", 1)), true)
	has(t, p, mapOf(1, "m", 0), pairs("a", 2, "z", 1), four{pairs("z", 1), pairs("a", 2)})
	if moved, e := p.Turn(mapOf(2, "m", 0)); moved != 1 || e != api.OK {
		t.Errorf("Turn = %d, %d, want 1", moved, e)
	}
	has(t, p, mapOf(2, "m", 0), pairs("a", 2, "z", 1), four{pairs("z", 1), nil, pairs("a", 2)})
}

func TestP31TurnErrors(t *testing.T) {
	m, l := mapOf(0, "m", 1), pairs("a", 1, "z", 2)
	p := divided(t, m, l)
	for _, bad := range badMaps() {
		if moved, e := p.Turn(bad.m); moved != 0 || e != bad.want {
			t.Errorf("Turn(%v) = %d, %d, want %d", bad.m, moved, e, bad.want)
		}
		has(t, p, m, l, four{l[:1], l[1:]})
		who(t, p, ops(cpy("a", "z")), 0, 1)
	}
	does(t, p, ops(move("a", "z", 2)), true)
	has(t, p, m, pairs("a", 3), four{pairs("a", 3)})
}

// After Turn, transactions go by the new map.
func TestP30P31DoAfterTurn(t *testing.T) {
	p := divided(t, mapOf(0, "m", 1), pairs("a", 5, "z", 1))
	m := mapOf(3, "c", 2, "y", 0)
	if moved, e := p.Turn(m); moved != 2 || e != api.OK {
		t.Errorf("Turn = %d, %d, want 2", moved, e)
	}
	does(t, p, ops(move("c", "a", 2), add("z", 1), set("x", 4)), true)
	has(t, p, m, pairs("a", 3, "c", 2, "x", 4, "z", 2), four{pairs("z", 2), nil, pairs("c", 2, "x", 4), pairs("a", 3)})
}

// The map is the one that was passed, also where an equivalent one has fewer cuts.
func TestP32MapIsAsPassed(t *testing.T) {
	p := divided(t, mapOf(1), pairs("a", 1))
	for _, m := range []api.Map{
		mapOf(1, "c", 1, "m", 1),
		mapOf(1, "m", 1),
		mapOf(1),
		mapOf(0, "a", 1),
		{Cuts: letters(12), Owners: make([]int, 13)},
		{Cuts: letters(12), Owners: []int{0, 1, 2, 3, 0, 1, 2, 3, 0, 1, 2, 3, 0}},
		{Cuts: []string{}, Owners: []int{2}},
	} {
		if got := divided(t, m, nil).Map(); !equal(got, m) {
			t.Errorf("Map() after New(%v) = %v", m, got)
		}
		if _, e := p.Turn(m); e != api.OK {
			t.Fatalf("Turn(%v): %d", m, e)
		}
		does(t, p, ops(add("a", 1)), true)
		if got := p.Map(); !equal(got, m) {
			t.Errorf("Map() after Turn(%v) = %v", m, got)
		}
	}
}

// P1: odd arguments in a partitioned store of any state end in a return.
func TestP1NoPanic(t *testing.T) {
	words := []string{"", "a", "z", "A", "\x00", "\xff\xfe", "é", strings.Repeat("z", 1<<10)}
	numbers := append(badOwners(), 0, 1, 2, 3, api.MaxValue, -api.MaxValue, api.MaxValue+1)
	list := []*parts.Parts{new(parts.Parts), divided(t, mapOf(0), nil), divided(t, mapOf(0, "m", 1), pairs("a", 1, "z", 2))}
	for _, p := range list {
		for _, bad := range badMaps() {
			p.Turn(bad.m)
			for _, l := range badStores() {
				parts.New(bad.m, l.l)
			}
		}
		for _, d := range []api.Deed{{}, {Ops: make([]api.Op, 1<<16)}} {
			p.Do(d)
			p.Who(d)
		}
		for _, kind := range []int{0, 1, 2, 3, 4, 5, 6, math.MaxInt, math.MinInt} {
			for _, key := range words {
				for _, from := range words {
					for _, n := range numbers {
						d := ops(api.Op{Kind: kind, Key: key, From: from, N: n})
						p.Do(d)
						p.Who(d)
						p.Part(n)
					}
				}
			}
		}
		p.Turn(api.Map{Cuts: make([]string, 1<<16), Owners: make([]int, 1<<16+1)})
		p.Turn(mapOf(2, "b", 3))
		p.All()
		p.Map()
	}
}

// A Parts that New did not return has no map: it refuses transactions with the
// error of shard.Check for this map and stays empty until Turn.
func TestP1ZeroValue(t *testing.T) {
	p := new(parts.Parts)
	has(t, p, api.Map{}, nil, four{})
	if got, e := p.Who(ops(set("a", 1))); len(got) != 0 || e != api.ErrForm {
		t.Errorf("Who = %v, %d, want ErrForm", got, e)
	}
	if done, e := p.Do(ops(set("a", 1))); done || e != api.ErrForm {
		t.Errorf("Do = %v, %d, want ErrForm", done, e)
	}
	has(t, p, api.Map{}, nil, four{})
	if moved, e := p.Turn(mapOf(2)); moved != 0 || e != api.OK {
		t.Errorf("Turn = %d, %d", moved, e)
	}
	does(t, p, ops(set("a", 1)), true)
	has(t, p, mapOf(2), pairs("a", 1), four{2: pairs("a", 1)})
}
