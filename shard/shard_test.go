package shard_test

import (
	"math"
	"slices"
	"strings"
	"testing"

	"ropery/api"
	"ropery/shard"
)

// mapOf builds a map from owners and cuts in turn, with an owner at both ends.
func mapOf(words ...any) api.Map {
	var m api.Map
	for _, w := range words {
		switch x := w.(type) {
		case string:
			m.Cuts = append(m.Cuts, x)
		case int:
			m.Owners = append(m.Owners, x)
		}
	}
	return m
}

// pairs builds a list from keys and values in turn.
func pairs(words ...any) []api.Pair {
	var l []api.Pair
	for i := 0; i < len(words); i += 2 {
		l = append(l, api.Pair{Key: words[i].(string), Value: words[i+1].(int)})
	}
	return l
}

// letters returns n cuts: a, b, c and so on.
func letters(n int) []string {
	var l []string
	for i := range n {
		l = append(l, string([]byte{'a' + byte(i)}))
	}
	return l
}

// wide returns a map with n cuts from a on and the owners 0, 1, 2, 3, 0 and so on.
func wide(n int) api.Map {
	m := api.Map{Cuts: letters(n)}
	for i := range n + 1 {
		m.Owners = append(m.Owners, i%4)
	}
	return m
}

func equal(a, b api.Map) bool {
	return slices.Equal(a.Cuts, b.Cuts) && slices.Equal(a.Owners, b.Owners)
}

func empty(m api.Map) bool { return len(m.Cuts) == 0 && len(m.Owners) == 0 }

// badKeys are strings that are no valid keys.
func badKeys() []string {
	return []string{"", "A", "Z", "a ", " a", "a1", "aA", "aaaaaaa", "`", "{", "\x00", "a\x00", "\xff", "é", strings.Repeat("z", 1<<16)}
}

// badOwners are numbers of no owner.
func badOwners() []int {
	return []int{-1, 4, 5, 256, -256, 1 << 32, -1 << 32, math.MaxInt, math.MinInt}
}

// badMap is a map that is not valid, with the error that Check returns.
type badMap struct {
	name string
	m    api.Map
	want api.Errno
}

func badMaps() []badMap {
	l := []badMap{
		{"zero", api.Map{}, api.ErrForm},
		{"empty", api.Map{Cuts: []string{}, Owners: []int{}}, api.ErrForm},
		{"13 cuts", wide(13), api.ErrLarge},
		{"20 cuts", wide(20), api.ErrLarge},
		{"no owner", api.Map{Cuts: []string{"a"}}, api.ErrForm},
		{"an owner too few", mapOf(0, "a"), api.ErrForm},
		{"an owner too many", mapOf(0, "a", 1, 2), api.ErrForm},
		{"two owners, no cut", mapOf(0, 1), api.ErrForm},
		{"12 cuts, 12 owners", api.Map{Cuts: letters(12), Owners: make([]int, 12)}, api.ErrForm},
		{"12 cuts, 14 owners", api.Map{Cuts: letters(12), Owners: make([]int, 14)}, api.ErrForm},
		{"same cut twice", mapOf(0, "a", 1, "a", 2), api.ErrForm},
		{"cuts descending", mapOf(0, "b", 1, "a", 2), api.ErrForm},
		{"prefix behind longer cut", mapOf(0, "ab", 1, "a", 2), api.ErrForm},
		{"ordered by length only", mapOf(0, "b", 1, "aa", 2), api.ErrForm},
		{"last of three not greater", mapOf(0, "a", 1, "c", 2, "b", 3), api.ErrForm},
		{"not greater than the preceding, but than the first", mapOf(0, "a", 1, "d", 2, "c", 3, "e", 0), api.ErrForm},
		{"count before cuts: large", api.Map{Cuts: make([]string, 13), Owners: make([]int, 14)}, api.ErrLarge},
		{"count before number of owners", api.Map{Cuts: letters(13)}, api.ErrLarge},
		{"count before owners", api.Map{Cuts: letters(13), Owners: slices.Repeat([]int{4}, 14)}, api.ErrLarge},
		{"number of owners before owners", mapOf(4, 4), api.ErrForm},
		{"number of owners before owners, with a cut", mapOf(4, "a"), api.ErrForm},
		{"cut before owner", mapOf(4, "A", 0), api.ErrForm},
		{"order of cuts before owner", mapOf(-1, "b", 0, "a", 1), api.ErrForm},
		{"last cut before first owner", mapOf(4, "a", 0, "b", 1, "B", 2), api.ErrForm},
	}
	for _, key := range badKeys() {
		l = append(l, badMap{"only cut", mapOf(0, key, 1), api.ErrForm}, badMap{"first cut", mapOf(0, key, 1, "zz", 2), api.ErrForm},
			badMap{"middle cut", mapOf(0, "b", 1, key, 2, "zz", 3), api.ErrForm}, badMap{"last cut", mapOf(0, "b", 1, key, 2), api.ErrForm})
	}
	for _, n := range badOwners() {
		l = append(l, badMap{"only owner", mapOf(n), api.ErrArg}, badMap{"first owner", mapOf(n, "b", 1, "c", 0), api.ErrArg},
			badMap{"middle owner", mapOf(0, "b", n, "c", 0), api.ErrArg}, badMap{"last owner", mapOf(0, "b", 1, "c", n), api.ErrArg})
	}
	return l
}

// goodMaps are valid maps of all sizes.
func goodMaps() []api.Map {
	l := []api.Map{
		{Cuts: []string{}, Owners: []int{0}},
		mapOf(0, "a", 0),
		mapOf(0, "a", 1),
		mapOf(3, "zzzzzz", 2),
		mapOf(0, "m", 1),
		mapOf(1, "c", 1, "m", 1),
		mapOf(0, "c", 1, "m", 1),
		mapOf(1, "c", 1, "m", 0),
		mapOf(1, "c", 0, "m", 1),
		mapOf(0, "a", 1, "aa", 2, "ab", 3, "b", 0, "ba", 1),
		mapOf(2, "aaaaaa", 2, "aaaaab", 1, "aaaab", 1, "b", 2, "c", 2),
		mapOf(0, "az", 1, "b", 2),
	}
	for n := range 4 {
		l = append(l, mapOf(n))
	}
	for n := range 13 {
		l = append(l, wide(n), api.Map{Cuts: letters(n), Owners: make([]int, n+1)})
	}
	return l
}

func TestP22CheckAcceptsMaps(t *testing.T) {
	for _, m := range goodMaps() {
		if e := shard.Check(m); e != api.OK {
			t.Errorf("Check(%v) = %d", m, e)
		}
	}
}

func TestP22CheckErrors(t *testing.T) {
	for _, bad := range badMaps() {
		if e := shard.Check(bad.m); e != bad.want {
			t.Errorf("%s: Check(%v) = %d, want %d", bad.name, bad.m, e, bad.want)
		}
	}
}

// The other arguments are also wrong in some calls, with errors that differ
// from the one of Check, so that the order of the checks shows.
func TestP22OtherFunctionsCheckFirst(t *testing.T) {
	for _, bad := range badMaps() {
		for _, key := range []string{"a", "b", "q", "", "A"} {
			if n, e := shard.Find(bad.m, key); n != 0 || e != bad.want {
				t.Errorf("%s: Find(%v, %q) = %d, %d, want %d", bad.name, bad.m, key, n, e, bad.want)
			}
			if m, e := shard.Cut(bad.m, key); !empty(m) || e != bad.want {
				t.Errorf("%s: Cut(%v, %q) = %v, %d, want %d", bad.name, bad.m, key, m, e, bad.want)
			}
		}
		for _, n := range []int{0, 1, -1, 4, 99} {
			for _, owner := range []int{0, 3, 4, -1} {
				if m, e := shard.Give(bad.m, n, owner); !empty(m) || e != bad.want {
					t.Errorf("%s: Give(%v, %d, %d) = %v, %d, want %d", bad.name, bad.m, n, owner, m, e, bad.want)
				}
			}
			for _, l := range [][]api.Pair{nil, pairs("a", 1), pairs("A", 1), pairs("a", 0)} {
				if part, e := shard.Part(bad.m, l, n); len(part) != 0 || e != bad.want {
					t.Errorf("%s: Part(%v, %v, %d) = %v, %d, want %d", bad.name, bad.m, l, n, part, e, bad.want)
				}
			}
		}
		if m, e := shard.Plain(bad.m); !empty(m) || e != bad.want {
			t.Errorf("%s: Plain(%v) = %v, %d, want %d", bad.name, bad.m, m, e, bad.want)
		}
	}
}

func TestP22SameChecksBothInOrder(t *testing.T) {
	for _, x := range badMaps() {
		for _, good := range goodMaps() {
			if is, e := shard.Same(x.m, good); is || e != x.want {
				t.Errorf("%s: Same(%v, %v) = %v, %d, want %d", x.name, x.m, good, is, e, x.want)
			}
			if is, e := shard.Same(good, x.m); is || e != x.want {
				t.Errorf("%s: Same(%v, %v) = %v, %d, want %d", x.name, good, x.m, is, e, x.want)
			}
		}
		for _, y := range badMaps() {
			if is, e := shard.Same(x.m, y.m); is || e != x.want {
				t.Errorf("Same(%v, %v) = %v, %d, want %d", x.m, y.m, is, e, x.want)
			}
		}
	}
}

func TestP23Find(t *testing.T) {
	for _, c := range []struct {
		m    api.Map
		want map[string]int
	}{
		{mapOf(2), map[string]int{"a": 2, "m": 2, "zzzzzz": 2}},
		{mapOf(0, "m", 1), map[string]int{"a": 0, "l": 0, "lzzzzz": 0, "m": 1, "ma": 1, "zzzzzz": 1}},
		{mapOf(0, "a", 3), map[string]int{"a": 3, "aa": 3, "b": 3}},
		{mapOf(0, "zzzzzz", 3), map[string]int{"a": 0, "zzzzz": 0, "zzzzzy": 0, "zzzzzz": 3}},
		{mapOf(3, "b", 2, "bb", 1, "c", 0), map[string]int{"a": 3, "azzzzz": 3, "b": 2, "ba": 2, "baz": 2, "bb": 1, "bba": 1, "bz": 1, "c": 0, "ca": 0}},
		{mapOf(0, "c", 1, "e", 1, "g", 0), map[string]int{"b": 0, "c": 1, "d": 1, "e": 1, "f": 1, "g": 0, "h": 0}},
	} {
		for key, want := range c.want {
			if got, e := shard.Find(c.m, key); got != want || e != api.OK {
				t.Errorf("Find(%v, %q) = %d, %d, want %d", c.m, key, got, e, want)
			}
		}
	}
}

func TestP23FindInEveryRangeOf12Cuts(t *testing.T) {
	m := api.Map{Cuts: strings.Split("bdfhjlnprtvx", ""), Owners: []int{0, 1, 2, 3, 2, 1, 0, 3, 1, 0, 2, 3, 1}}
	for i, owner := range m.Owners {
		for _, key := range []string{string([]byte{'a' + byte(2*i)}), string([]byte{'a' + byte(2*i), 'q'})} {
			if got, e := shard.Find(m, key); got != owner || e != api.OK {
				t.Errorf("Find(%q) = %d, %d, want %d", key, got, e, owner)
			}
		}
		if i > 0 {
			if got, e := shard.Find(m, m.Cuts[i-1]); got != owner || e != api.OK {
				t.Errorf("Find(%q) = %d, %d, want %d", m.Cuts[i-1], got, e, owner)
			}
		}
	}
}

func TestP23FindInvalidKey(t *testing.T) {
	for _, m := range []api.Map{mapOf(1), mapOf(1, "a", 2), mapOf(3, "c", 2, "m", 1), wide(12)} {
		for _, key := range badKeys() {
			if n, e := shard.Find(m, key); n != 0 || e != api.ErrForm {
				t.Errorf("Find(%v, %q) = %d, %d, want ErrForm", m, key, n, e)
			}
		}
	}
}

func TestP24Cut(t *testing.T) {
	for _, c := range []struct {
		m    api.Map
		key  string
		want api.Map
	}{
		{mapOf(2), "m", mapOf(2, "m", 2)},
		{mapOf(0), "a", mapOf(0, "a", 0)},
		{mapOf(0, "m", 1), "a", mapOf(0, "a", 0, "m", 1)},
		{mapOf(0, "m", 1), "lzzzzz", mapOf(0, "lzzzzz", 0, "m", 1)},
		{mapOf(0, "m", 1), "ma", mapOf(0, "m", 1, "ma", 1)},
		{mapOf(0, "m", 1), "zzzzzz", mapOf(0, "m", 1, "zzzzzz", 1)},
		{mapOf(3, "c", 2, "m", 1), "b", mapOf(3, "b", 3, "c", 2, "m", 1)},
		{mapOf(3, "c", 2, "m", 1), "f", mapOf(3, "c", 2, "f", 2, "m", 1)},
		{mapOf(3, "c", 2, "m", 1), "z", mapOf(3, "c", 2, "m", 1, "z", 1)},
		{mapOf(0, "c", 0, "m", 0), "f", mapOf(0, "c", 0, "f", 0, "m", 0)},
		{wide(11), "l", api.Map{Cuts: letters(12), Owners: []int{0, 1, 2, 3, 0, 1, 2, 3, 0, 1, 2, 3, 3}}},
	} {
		if got, e := shard.Cut(c.m, c.key); !equal(got, c.want) || e != api.OK {
			t.Errorf("Cut(%v, %q) = %v, %d, want %v", c.m, c.key, got, e, c.want)
		}
	}
}

func TestP24CutErrors(t *testing.T) {
	for _, c := range []struct {
		m    api.Map
		key  string
		want api.Errno
	}{
		{mapOf(0, "m", 1), "m", api.ErrThere},
		{mapOf(0, "m", 0), "m", api.ErrThere},
		{mapOf(0, "b", 1, "c", 2, "d", 3), "b", api.ErrThere},
		{mapOf(0, "b", 1, "c", 2, "d", 3), "c", api.ErrThere},
		{mapOf(0, "b", 1, "c", 2, "d", 3), "d", api.ErrThere},
		{wide(12), "z", api.ErrLarge},
		{wide(12), "aa", api.ErrLarge},
		{wide(12), "lz", api.ErrLarge},
		{wide(12), "a", api.ErrThere},
		{wide(12), "f", api.ErrThere},
		{wide(12), "l", api.ErrThere},
		{wide(12), "", api.ErrForm},
		{wide(12), "A", api.ErrForm},
	} {
		if got, e := shard.Cut(c.m, c.key); !empty(got) || e != c.want {
			t.Errorf("Cut(%v, %q) = %v, %d, want %d", c.m, c.key, got, e, c.want)
		}
	}
	for _, key := range badKeys() {
		for _, m := range goodMaps() {
			if got, e := shard.Cut(m, key); !empty(got) || e != api.ErrForm {
				t.Errorf("Cut(%v, %q) = %v, %d, want ErrForm", m, key, got, e)
			}
		}
	}
}

func TestP25Give(t *testing.T) {
	for _, c := range []struct {
		m        api.Map
		i, owner int
		want     api.Map
	}{
		{mapOf(0), 0, 3, mapOf(3)},
		{mapOf(2), 0, 2, mapOf(2)},
		{mapOf(3, "c", 2, "m", 1), 0, 0, mapOf(0, "c", 2, "m", 1)},
		{mapOf(3, "c", 2, "m", 1), 1, 0, mapOf(3, "c", 0, "m", 1)},
		{mapOf(3, "c", 2, "m", 1), 2, 0, mapOf(3, "c", 2, "m", 0)},
		// Neighbours of one owner keep the cut between them.
		{mapOf(3, "c", 2, "m", 1), 1, 1, mapOf(3, "c", 1, "m", 1)},
		{mapOf(1, "c", 2, "m", 1), 1, 1, mapOf(1, "c", 1, "m", 1)},
	} {
		if got, e := shard.Give(c.m, c.i, c.owner); !equal(got, c.want) || e != api.OK {
			t.Errorf("Give(%v, %d, %d) = %v, %d, want %v", c.m, c.i, c.owner, got, e, c.want)
		}
	}
}

func TestP25GiveEveryIndexAndOwner(t *testing.T) {
	for _, m := range goodMaps() {
		for i := range m.Owners {
			for owner := range 4 {
				want := api.Map{Cuts: m.Cuts, Owners: slices.Clone(m.Owners)}
				want.Owners[i] = owner
				if got, e := shard.Give(m, i, owner); !equal(got, want) || e != api.OK {
					t.Errorf("Give(%v, %d, %d) = %v, %d, want %v", m, i, owner, got, e, want)
				}
			}
		}
	}
}

func TestP25GiveErrors(t *testing.T) {
	for _, m := range goodMaps() {
		for _, owner := range badOwners() {
			for _, i := range []int{0, len(m.Owners) - 1, len(m.Owners), -1} {
				if got, e := shard.Give(m, i, owner); !empty(got) || e != api.ErrArg {
					t.Errorf("Give(%v, %d, %d) = %v, %d, want ErrArg", m, i, owner, got, e)
				}
			}
		}
		for _, i := range []int{-1, len(m.Owners), len(m.Owners) + 1, 1 << 32, math.MaxInt, math.MinInt} {
			if got, e := shard.Give(m, i, 0); !empty(got) || e != api.ErrArg {
				t.Errorf("Give(%v, %d, 0) = %v, %d, want ErrArg", m, i, got, e)
			}
		}
	}
}

// plainCase is a map and its Plain.
type plainCase struct{ m, want api.Map }

func plainCases() []plainCase {
	return []plainCase{
		{mapOf(2), mapOf(2)},
		{mapOf(0, "m", 1), mapOf(0, "m", 1)},
		{mapOf(1, "m", 1), mapOf(1)},
		{mapOf(0, "c", 1, "m", 1), mapOf(0, "c", 1)},
		{mapOf(1, "c", 1, "m", 0), mapOf(1, "m", 0)},
		{mapOf(1, "c", 0, "m", 1), mapOf(1, "c", 0, "m", 1)},
		{mapOf(3, "c", 3, "m", 3), mapOf(3)},
		{mapOf(0, "b", 0, "c", 1, "d", 1, "e", 1, "f", 0, "g", 0), mapOf(0, "c", 1, "f", 0)},
		{mapOf(0, "b", 1, "c", 1, "d", 0, "e", 0, "f", 1), mapOf(0, "b", 1, "d", 0, "f", 1)},
		{wide(12), wide(12)},
		{api.Map{Cuts: letters(12), Owners: slices.Repeat([]int{2}, 13)}, mapOf(2)},
		// No valid key is below a, but the owners on both sides differ.
		{mapOf(0, "a", 1), mapOf(0, "a", 1)},
		{mapOf(1, "a", 1), mapOf(1)},
		{mapOf(0, "a", 1, "b", 1), mapOf(0, "a", 1)},
	}
}

func TestP26Plain(t *testing.T) {
	for _, c := range plainCases() {
		if got, e := shard.Plain(c.m); !equal(got, c.want) || e != api.OK {
			t.Errorf("Plain(%v) = %v, %d, want %v", c.m, got, e, c.want)
		}
		if got, e := shard.Plain(c.want); !equal(got, c.want) || e != api.OK {
			t.Errorf("Plain(%v) = %v, %d, want the same", c.want, got, e)
		}
	}
}

func TestP26SameComparesPlain(t *testing.T) {
	for _, x := range plainCases() {
		for _, y := range plainCases() {
			want := equal(x.want, y.want)
			if is, e := shard.Same(x.m, y.m); is != want || e != api.OK {
				t.Errorf("Same(%v, %v) = %v, %d, want %v", x.m, y.m, is, e, want)
			}
		}
	}
}

func TestP26Same(t *testing.T) {
	for _, c := range []struct {
		a, b api.Map
		want bool
	}{
		{mapOf(0), mapOf(0), true},
		{mapOf(0), mapOf(1), false},
		{mapOf(0), mapOf(0, "m", 0), true},
		{mapOf(0), mapOf(0, "m", 1), false},
		{mapOf(0, "m", 1), mapOf(0, "m", 1), true},
		{mapOf(0, "m", 1), mapOf(1, "m", 0), false},
		{mapOf(0, "m", 1), mapOf(0, "n", 1), false},
		{mapOf(0, "m", 1), mapOf(0, "m", 2), false},
		{mapOf(0, "m", 1), mapOf(2, "m", 1), false},
		{mapOf(0, "c", 0, "m", 1), mapOf(0, "m", 1, "x", 1), true},
		{mapOf(0, "c", 0, "m", 1), mapOf(0, "c", 1, "m", 1), false},
		{mapOf(0, "m", 1), mapOf(0, "m", 1, "x", 0), false},
		{wide(12), wide(12), true},
		{wide(12), wide(11), false},
	} {
		for _, x := range [][2]api.Map{{c.a, c.b}, {c.b, c.a}} {
			if is, e := shard.Same(x[0], x[1]); is != c.want || e != api.OK {
				t.Errorf("Same(%v, %v) = %v, %d, want %v", x[0], x[1], is, e, c.want)
			}
		}
	}
}

func TestP27Part(t *testing.T) {
	l := pairs("a", 1, "b", -2, "c", 3, "ca", 4, "m", api.MaxValue, "zzzzzz", -api.MaxValue)
	for _, c := range []struct {
		m    api.Map
		want [4][]api.Pair
	}{
		{mapOf(2), [4][]api.Pair{nil, nil, l, nil}},
		{mapOf(0, "c", 3), [4][]api.Pair{l[:2], nil, nil, l[2:]}},
		{mapOf(0, "cb", 3), [4][]api.Pair{l[:4], nil, nil, l[4:]}},
		{mapOf(3, "a", 1), [4][]api.Pair{nil, l, nil, nil}},
		{mapOf(1, "zzzzzz", 0), [4][]api.Pair{l[5:], l[:5], nil, nil}},
		{mapOf(1, "b", 0, "c", 1, "m", 2, "n", 1), [4][]api.Pair{l[1:2], pairs("a", 1, "c", 3, "ca", 4, "zzzzzz", -api.MaxValue), l[4:5], nil}},
		{mapOf(0, "c", 0, "m", 0), [4][]api.Pair{l, nil, nil, nil}},
	} {
		for owner, want := range c.want {
			if got, e := shard.Part(c.m, l, owner); !slices.Equal(got, want) || e != api.OK {
				t.Errorf("Part(%v, %v, %d) = %v, %d, want %v", c.m, l, owner, got, e, want)
			}
			if got, e := shard.Part(c.m, nil, owner); len(got) != 0 || e != api.OK {
				t.Errorf("Part(%v, nil, %d) = %v, %d", c.m, owner, got, e)
			}
		}
	}
}

func TestP27PartErrors(t *testing.T) {
	good := pairs("a", 1, "b", 2)
	stores := []struct {
		l    []api.Pair
		want api.Errno
	}{
		{pairs("", 1), api.ErrForm},
		{pairs("A", 1), api.ErrForm},
		{pairs("aaaaaaa", 1), api.ErrForm},
		{pairs("a", 0), api.ErrArg},
		{pairs("a", api.MaxValue+1), api.ErrArg},
		{pairs("a", 1, "a", 1), api.ErrForm},
		{pairs("b", 1, "a", 1), api.ErrForm},
		{pairs("a", 1, "b", 0), api.ErrArg},
	}
	for _, m := range goodMaps() {
		for _, owner := range badOwners() {
			if got, e := shard.Part(m, good, owner); len(got) != 0 || e != api.ErrArg {
				t.Errorf("Part(%v, %v, %d) = %v, %d, want ErrArg", m, good, owner, got, e)
			}
			if got, e := shard.Part(m, nil, owner); len(got) != 0 || e != api.ErrArg {
				t.Errorf("Part(%v, nil, %d) = %v, %d, want ErrArg", m, owner, got, e)
			}
		}
		for _, c := range stores {
			for _, owner := range []int{0, 3, 4, -1, math.MinInt} {
				if got, e := shard.Part(m, c.l, owner); len(got) != 0 || e != c.want {
					t.Errorf("Part(%v, %v, %d) = %v, %d, want %d", m, c.l, owner, got, e, c.want)
				}
			}
		}
	}
}
