package merge_test

import (
	"math"
	"slices"
	"strings"
	"testing"

	"ropery/api"
	"ropery/merge"
)

func set(key string, n int) api.Op        { return api.Op{Kind: api.Set, Key: key, N: n} }
func add(key string, n int) api.Op        { return api.Op{Kind: api.Add, Key: key, N: n} }
func cpy(key, from string) api.Op         { return api.Op{Kind: api.Copy, Key: key, From: from} }
func need(key string, n int) api.Op       { return api.Op{Kind: api.Need, Key: key, N: n} }
func move(key, from string, n int) api.Op { return api.Op{Kind: api.Move, Key: key, From: from, N: n} }

func ops(l ...api.Op) api.Deed { return api.Deed{Ops: l} }

// times is a transaction of n equal operations.
func times(n int, op api.Op) api.Deed { return api.Deed{Ops: slices.Repeat([]api.Op{op}, n)} }

// mapOf builds a map from owners and cuts in turn, with an owner at both ends.
func mapOf(words ...any) api.Map {
	var m api.Map
	for _, w := range words {
		switch x := w.(type) {
		case string:
			m.Cuts = append(m.Cuts, x)
		case int:
			m.Owners = append(m.Owners, x)
		}
	}
	return m
}

// letters returns n cuts: a, b, c and so on.
func letters(n int) []string {
	var l []string
	for i := range n {
		l = append(l, string([]byte{'a' + byte(i)}))
	}
	return l
}

func deedEntry(l ...api.Op) api.Entry { return api.Entry{Deed: ops(l...)} }
func mapEntry(words ...any) api.Entry { return api.Entry{IsMap: true, Map: mapOf(words...)} }

// entry is an entry that differs from those of other numbers.
func entry(n int) api.Entry { return deedEntry(set("a", n)) }

// entries are the entries of these numbers.
func entries(numbers ...int) []api.Entry {
	var l []api.Entry
	for _, n := range numbers {
		l = append(l, entry(n))
	}
	return l
}

func equalMap(a, b api.Map) bool {
	return slices.Equal(a.Cuts, b.Cuts) && slices.Equal(a.Owners, b.Owners)
}

func equalEntry(a, b api.Entry) bool {
	return slices.Equal(a.Deed.Ops, b.Deed.Ops) && a.IsMap == b.IsMap && equalMap(a.Map, b.Map)
}

func equalEntries(a, b []api.Entry) bool { return slices.EqualFunc(a, b, equalEntry) }

// badEntry is an entry that is not valid, with the error that deed.Check or
// shard.Check returns.
type badEntry struct {
	x    api.Entry
	want api.Errno
}

func badEntries() []badEntry {
	return []badEntry{
		{api.Entry{}, api.ErrLarge},
		{api.Entry{Deed: api.Deed{Ops: []api.Op{}}}, api.ErrLarge},
		{api.Entry{Deed: times(9, set("a", 1))}, api.ErrLarge},
		{api.Entry{Deed: times(9, api.Op{})}, api.ErrLarge},
		{api.Entry{Deed: times(1, api.Op{})}, api.ErrForm},
		{deedEntry(api.Op{Kind: 6, Key: "a", From: "b", N: 1}), api.ErrForm},
		{deedEntry(api.Op{Kind: -1, Key: "a", From: "b", N: 1}), api.ErrForm},
		{deedEntry(set("A", 1)), api.ErrForm},
		{deedEntry(set("aaaaaaa", 1)), api.ErrForm},
		{deedEntry(set("a", 1), set("", 1)), api.ErrForm},
		{deedEntry(set("a", 1), cpy("a", "")), api.ErrForm},
		{deedEntry(set("a", 1), move("z", "z", 1)), api.ErrForm},
		{deedEntry(set("a", 1), set("z", api.MaxValue+1)), api.ErrArg},
		{deedEntry(set("a", 1), move("z", "a", -1)), api.ErrArg},
		{deedEntry(add("a", math.MinInt), set("A", 1)), api.ErrArg},
		{deedEntry(need("A", math.MaxInt)), api.ErrForm},
		// The map of a transaction does not count.
		{api.Entry{Map: mapOf(0, "m", 1)}, api.ErrLarge},
		{api.Entry{Deed: ops(set("A", 1)), Map: mapOf(0)}, api.ErrForm},
		{api.Entry{Deed: ops(set("A", 1)), Map: mapOf(4)}, api.ErrForm},
		{mapEntry(), api.ErrForm},
		{api.Entry{IsMap: true, Map: api.Map{Cuts: letters(13), Owners: make([]int, 14)}}, api.ErrLarge},
		{api.Entry{IsMap: true, Map: api.Map{Cuts: letters(13)}}, api.ErrLarge},
		{mapEntry(0, 1), api.ErrForm},
		{mapEntry(0, "m"), api.ErrForm},
		{mapEntry(0, "M", 1), api.ErrForm},
		{mapEntry(0, "m", 1, "m", 2), api.ErrForm},
		{mapEntry(4, "m", 1, "b", 2), api.ErrForm},
		{mapEntry(4), api.ErrArg},
		{mapEntry(0, "m", -1), api.ErrArg},
		{mapEntry(0, "m", 0, "n", math.MaxInt), api.ErrArg},
		// The transaction of a map entry does not count.
		{api.Entry{IsMap: true, Deed: ops(set("a", 1))}, api.ErrForm},
		{api.Entry{IsMap: true, Deed: ops(set("a", 1)), Map: mapOf(4)}, api.ErrArg},
		{api.Entry{IsMap: true, Deed: ops(set("A", 1)), Map: mapOf(4)}, api.ErrArg},
	}
}

// badInputs are numbers of no input of a Merge with n inputs.
func badInputs(n int) []int {
	return []int{-1, -2, -n, n, n + 1, 256, -256, 1 << 32, 1<<32 + n - 1, -1 << 32, math.MaxInt, math.MinInt}
}

// merging returns a Merge of n inputs.
func merging(t *testing.T, n int) *merge.Merge {
	t.Helper()
	m, e := merge.New(n)
	if m == nil || e != api.OK {
		t.Fatalf("New(%d) = %v, %d", n, m, e)
	}
	return m
}

func adds(t *testing.T, m *merge.Merge, i int, l ...api.Entry) {
	t.Helper()
	for _, x := range l {
		if e := m.Add(i, x); e != api.OK {
			t.Errorf("Add(%d, %v) = %d", i, x, e)
		}
	}
}

func closes(t *testing.T, m *merge.Merge, i, want int) {
	t.Helper()
	if n, e := m.Close(i); n != want || e != api.OK {
		t.Errorf("Close(%d) = %d, %d, want %d", i, n, e, want)
	}
}

// has compares all that a Merge tells with what it should have.
func has(t *testing.T, m *merge.Merge, rounds int, waits []int, log ...api.Entry) {
	t.Helper()
	if got := m.Rounds(); got != rounds {
		t.Errorf("Rounds() = %d, want %d", got, rounds)
	}
	if got := m.Waits(); !slices.Equal(got, waits) {
		t.Errorf("Waits() = %v, want %v", got, waits)
	}
	if got := m.Log(); !equalEntries(got, log) {
		t.Errorf("Log() = %v, want %v", got, log)
	}
}

func TestP41New(t *testing.T) {
	for n := 1; n <= 4; n++ {
		m := merging(t, n)
		has(t, m, 0, []int{0, 1, 2, 3}[:n])
		// All batches are open and empty, and each of the inputs is there.
		for i := range n {
			has(t, m, 0, []int{0, 1, 2, 3}[i:n])
			closes(t, m, i, 1)
		}
		has(t, m, 1, []int{0, 1, 2, 3}[:n])
		if e := m.Add(n, entry(1)); e != api.ErrNone {
			t.Errorf("Add(%d) of %d inputs = %d, want ErrNone", n, n, e)
		}
	}
}

func TestP41Errors(t *testing.T) {
	for _, n := range []int{0, -1, -2, -4, 5, 6, 60, 256 + 1, 1<<32 + 1, math.MaxInt, math.MinInt, math.MinInt + 1} {
		if m, e := merge.New(n); m != nil || e != api.ErrArg {
			t.Errorf("New(%d) = %v, %d, want ErrArg", n, m, e)
		}
	}
}

func TestP42AddAppends(t *testing.T) {
	m := merging(t, 2)
	adds(t, m, 0, entries(1, 2)...)
	adds(t, m, 1, entries(3)...)
	adds(t, m, 0, entries(4)...)
	has(t, m, 0, []int{0, 1})
	closes(t, m, 0, 1)
	has(t, m, 0, []int{1})
	adds(t, m, 0, entries(5)...)
	adds(t, m, 1, entries(6, 7)...)
	has(t, m, 0, []int{1})
	closes(t, m, 1, 1)
	has(t, m, 1, []int{0, 1}, entries(1, 2, 4, 3, 6, 7)...)
	adds(t, m, 0, entries(8)...)
	adds(t, m, 1, entries(9)...)
	has(t, m, 1, []int{0, 1}, entries(1, 2, 4, 3, 6, 7)...)
	closes(t, m, 1, 2)
	closes(t, m, 0, 2)
	has(t, m, 2, []int{0, 1}, entries(1, 2, 4, 3, 6, 7, 5, 8, 9)...)
}

// Equal entries are all kept.
func TestP42EqualEntries(t *testing.T) {
	m := merging(t, 2)
	adds(t, m, 0, entries(1, 1)...)
	adds(t, m, 1, entries(1)...)
	closes(t, m, 0, 1)
	closes(t, m, 1, 1)
	has(t, m, 1, []int{0, 1}, entries(1, 1, 1)...)
}

// kinds are valid entries, with what is stored of them.
func kinds() [][2]api.Entry {
	odd := ops(api.Op{Kind: api.Set, Key: "a", From: "Z", N: 1}, api.Op{Kind: api.Copy, Key: "a", From: "b", N: math.MaxInt})
	eight := ops(set("a", 8), move("b", "a", 7), cpy("c", "b"), need("c", 7), add("d", -1), set("e", 0), set("zzzzzz", api.MaxValue), add("f", -api.MaxValue))
	large := api.Map{Cuts: letters(12), Owners: []int{3, 0, 1, 2, 3, 0, 1, 2, 3, 0, 1, 2, 3}}
	return [][2]api.Entry{
		{entry(1), entry(1)},
		{{Deed: eight}, {Deed: eight}},
		{{Deed: odd}, {Deed: odd}},
		{mapEntry(0), mapEntry(0)},
		{mapEntry(0, "m", 0), mapEntry(0, "m", 0)},
		{mapEntry(3, "b", 1, "m", 2), mapEntry(3, "b", 1, "m", 2)},
		{{IsMap: true, Map: large}, {IsMap: true, Map: large}},
		// Both fields are set, and one of them counts.
		{{Deed: ops(set("a", 1)), Map: mapOf(0, "m", 1)}, entry(1)},
		{{Deed: ops(set("a", 1)), Map: mapOf(0, "m", 1), IsMap: true}, mapEntry(0, "m", 1)},
		{{Deed: ops(set("a", 1)), Map: mapOf(7, "M")}, entry(1)},
		{{Deed: ops(set("A", 1)), Map: mapOf(2), IsMap: true}, mapEntry(2)},
		{{Deed: times(9, api.Op{}), Map: mapOf(2), IsMap: true}, mapEntry(2)},
	}
}

func TestP42AddStoresOneField(t *testing.T) {
	for _, x := range kinds() {
		m := merging(t, 1)
		adds(t, m, 0, x[0], x[0])
		closes(t, m, 0, 1)
		has(t, m, 1, []int{0}, x[1], x[1])
	}
}

func TestP42MapsAndDeedsInOrder(t *testing.T) {
	m := merging(t, 2)
	var want []api.Entry
	for _, x := range kinds() {
		adds(t, m, 1, x[0])
		adds(t, m, 0, x[0])
		want = append(want, x[1])
	}
	closes(t, m, 1, 1)
	closes(t, m, 0, 1)
	has(t, m, 1, []int{0, 1}, slices.Concat(want, want)...)
}

// The input is checked before the entry, and the entry before their number.
func TestP42Errors(t *testing.T) {
	for n := 1; n <= 4; n++ {
		for _, full := range []bool{false, true} {
			m := merging(t, n)
			var want []api.Entry
			if full {
				want = entries(slices.Repeat([]int{5}, 60)...)
				adds(t, m, n-1, want...)
				if e := m.Add(0, entry(1)); e != api.ErrLarge {
					t.Errorf("Add of entry 61 = %d, want ErrLarge", e)
				}
			}
			refuses(t, m, n)
			for i := range n {
				closes(t, m, i, 1)
			}
			has(t, m, 1, []int{0, 1, 2, 3}[:n], want...)
		}
	}
}

// refuses tries to add what is not valid.
func refuses(t *testing.T, m *merge.Merge, n int) {
	t.Helper()
	for _, bad := range badEntries() {
		for i := range n {
			if e := m.Add(i, bad.x); e != bad.want {
				t.Errorf("Add(%d, %v) = %d, want %d", i, bad.x, e, bad.want)
			}
		}
		for _, i := range badInputs(n) {
			if e := m.Add(i, bad.x); e != api.ErrNone {
				t.Errorf("Add(%d, %v) of %d inputs = %d, want ErrNone", i, bad.x, n, e)
			}
		}
	}
	for _, i := range badInputs(n) {
		for _, x := range []api.Entry{entry(1), mapEntry(0, "m", 1)} {
			if e := m.Add(i, x); e != api.ErrNone {
				t.Errorf("Add(%d, %v) of %d inputs = %d, want ErrNone", i, x, n, e)
			}
		}
	}
}

// Sixty entries of one input, of several inputs, and in several batches, some
// of them maps; closing makes no room.
func TestP42Sixty(t *testing.T) {
	for n := 1; n <= 4; n++ {
		for _, every := range []int{1, 7, 100} {
			m := merging(t, n)
			for k := range 60 {
				x := entry(k)
				if k%3 == 0 {
					x = mapEntry(k % 4)
				}
				adds(t, m, k%n, x)
				if k%every == 0 {
					m.Close(k % n)
				}
			}
			for range 2 {
				for i := range n {
					if e := m.Add(i, entry(1)); e != api.ErrLarge {
						t.Errorf("%d inputs: Add(%d) after 60 entries = %d, want ErrLarge", n, i, e)
					}
					if e := m.Add(i, mapEntry(0)); e != api.ErrLarge {
						t.Errorf("%d inputs: Add(%d) of a map after 60 entries = %d, want ErrLarge", n, i, e)
					}
					m.Close(i)
				}
			}
			for range 60 {
				for i := range n {
					m.Close(i)
				}
			}
			if got := len(m.Log()); got != 60 {
				t.Errorf("%d inputs: the log has %d entries, want 60", n, got)
			}
		}
	}
}

// Entries that were refused do not count.
func TestP42RefusedEntriesDoNotCount(t *testing.T) {
	m := merging(t, 2)
	for _, bad := range badEntries() {
		m.Add(0, bad.x)
		m.Add(2, entry(1))
	}
	adds(t, m, 0, entries(slices.Repeat([]int{1}, 60)...)...)
	if e := m.Add(1, entry(1)); e != api.ErrLarge {
		t.Errorf("Add of entry 61 = %d, want ErrLarge", e)
	}
}

func TestP43Close(t *testing.T) {
	m := merging(t, 3)
	closes(t, m, 1, 1)
	closes(t, m, 1, 2)
	closes(t, m, 0, 1)
	closes(t, m, 1, 3)
	closes(t, m, 2, 1)
	closes(t, m, 0, 2)
	closes(t, m, 0, 3)
	closes(t, m, 0, 4)
	closes(t, m, 2, 2)
}

// A batch that is closed gets no more entries, and the new one starts empty.
func TestP43CloseOpensANewBatch(t *testing.T) {
	m := merging(t, 1)
	adds(t, m, 0, entries(1, 2)...)
	closes(t, m, 0, 1)
	has(t, m, 1, []int{0}, entries(1, 2)...)
	adds(t, m, 0, entries(3)...)
	has(t, m, 1, []int{0}, entries(1, 2)...)
	closes(t, m, 0, 2)
	has(t, m, 2, []int{0}, entries(1, 2, 3)...)
	closes(t, m, 0, 3)
	has(t, m, 3, []int{0}, entries(1, 2, 3)...)
}

func TestP43Errors(t *testing.T) {
	for n := 1; n <= 4; n++ {
		m := merging(t, n)
		for round := range 60 {
			for i := range n {
				closes(t, m, i, round+1)
			}
			for _, i := range badInputs(n) {
				if got, e := m.Close(i); got != 0 || e != api.ErrNone {
					t.Errorf("Close(%d) of %d inputs = %d, %d, want ErrNone", i, n, got, e)
				}
			}
		}
		has(t, m, 60, []int{0, 1, 2, 3}[:n])
		for i := range n {
			for range 2 {
				if got, e := m.Close(i); got != 0 || e != api.ErrLarge {
					t.Errorf("Close(%d) after 60 batches = %d, %d, want ErrLarge", i, got, e)
				}
			}
		}
		has(t, m, 60, []int{0, 1, 2, 3}[:n])
	}
}

// The limit is one of each input, and a full one still takes entries.
func TestP43SixtyOfOneInput(t *testing.T) {
	m := merging(t, 2)
	adds(t, m, 1, entries(9)...)
	for k := range 60 {
		if k%20 == 0 {
			adds(t, m, 0, entries(k)...)
		}
		closes(t, m, 0, k+1)
	}
	adds(t, m, 0, entries(100)...)
	if got, e := m.Close(0); got != 0 || e != api.ErrLarge {
		t.Errorf("Close after 60 batches = %d, %d, want ErrLarge", got, e)
	}
	has(t, m, 0, []int{1})
	for k := range 60 {
		closes(t, m, 1, k+1)
	}
	has(t, m, 60, []int{0, 1}, entries(0, 9, 20, 40)...)
}

// Entries in all batches to the last one are in the log.
func TestP43P44EntriesInSixtyBatches(t *testing.T) {
	m := merging(t, 1)
	var want []api.Entry
	for k := range 60 {
		want = append(want, entry(k))
		adds(t, m, 0, want[k])
		closes(t, m, 0, k+1)
		has(t, m, k+1, []int{0}, want...)
	}
}

// step is a call of Add, if entry is not 0, or else of Close, with what a
// Merge tells afterwards.
type step struct {
	input, entry int
	rounds       int
	waits        []int
	log          []int
}

func TestP44P45Rounds(t *testing.T) {
	m := merging(t, 3)
	for k, s := range []step{
		{2, 1, 0, []int{0, 1, 2}, nil},
		{2, 0, 0, []int{0, 1}, nil},
		{2, 2, 0, []int{0, 1}, nil},
		{0, 3, 0, []int{0, 1}, nil},
		{2, 0, 0, []int{0, 1}, nil},
		{0, 0, 0, []int{1}, nil},
		{1, 4, 0, []int{1}, nil},
		{0, 5, 0, []int{1}, nil},
		{1, 0, 1, []int{0, 1}, []int{3, 4, 1}},
		{1, 0, 1, []int{0}, []int{3, 4, 1}},
		{1, 6, 1, []int{0}, []int{3, 4, 1}},
		{1, 0, 1, []int{0}, []int{3, 4, 1}},
		{0, 0, 2, []int{0, 2}, []int{3, 4, 1, 5, 2}},
		{2, 7, 2, []int{0, 2}, []int{3, 4, 1, 5, 2}},
		{2, 0, 2, []int{0}, []int{3, 4, 1, 5, 2}},
		{0, 0, 3, []int{0, 1, 2}, []int{3, 4, 1, 5, 2, 6, 7}},
	} {
		if s.entry != 0 {
			adds(t, m, s.input, entry(s.entry))
		} else {
			m.Close(s.input)
		}
		has(t, m, s.rounds, s.waits, entries(s.log...)...)
		if t.Failed() {
			t.Fatalf("after step %d", k)
		}
	}
}

// The round waits for each of the inputs in turn, whichever comes last.
func TestP44P45LastInput(t *testing.T) {
	for n := 1; n <= 4; n++ {
		for last := range n {
			m := merging(t, n)
			var want []api.Entry
			for i := range n {
				adds(t, m, i, entry(i))
				want = append(want, entry(i))
			}
			for i := range n {
				if i != last {
					closes(t, m, i, 1)
					closes(t, m, i, 2)
				}
			}
			has(t, m, 0, []int{last})
			closes(t, m, last, 1)
			has(t, m, 1, []int{last}, want...)
		}
	}
}

// A Merge that New did not return has no inputs.
func TestP1NoPanic(t *testing.T) {
	var zero merge.Merge
	for _, m := range []*merge.Merge{&zero, merging(t, 1), merging(t, 4)} {
		for _, i := range append(badInputs(4), 0, 1, 2, 3) {
			for _, bad := range badEntries() {
				m.Add(i, bad.x)
			}
			m.Add(i, entry(1))
			m.Add(i, mapEntry(1))
			m.Add(i, deedEntry(set(strings.Repeat("a", 1<<16), 1)))
			m.Add(i, api.Entry{Deed: times(1<<16, set("a", 1))})
			m.Close(i)
			m.Rounds()
			m.Log()
			m.Waits()
		}
	}
	has(t, &zero, 0, nil)
	if n, e := zero.Close(0); n != 0 || e != api.ErrNone {
		t.Errorf("Close of a Merge without inputs = %d, %d", n, e)
	}
}
