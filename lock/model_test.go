package lock_test

import (
	"math"
	"slices"
	"strings"
	"testing"

	"ropery/api"
	"ropery/deed"
	"ropery/lock"
)

// fixed is a sequence of numbers that is the same in every run.
type fixed uint64

func (f *fixed) below(n int) int {
	*f = *f*6364136223846793005 + 1442695040888963407
	return int((uint64(*f) >> 33) % uint64(n))
}

// deed is a transaction on the first keys of a list of eight.
func (f *fixed) deed(most, keys int) api.Deed {
	names := []string{"a", "aa", "b", "c", "d", "zz", "x", "y"}[:keys]
	var d api.Deed
	for range 1 + f.below(most) {
		at := f.below(keys)
		from := (at + 1 + f.below(keys-1)) % keys
		d.Ops = append(d.Ops, api.Op{Kind: 1 + f.below(5), Key: names[at], From: names[from], N: f.below(5)})
	}
	return d
}

// model keeps the transactions themselves and compares each with all earlier ones.
type model struct {
	deeds []api.Deed
	gone  []bool
}

func (m *model) add(d api.Deed) int {
	m.deeds, m.gone = append(m.deeds, d), append(m.gone, false)
	return len(m.deeds) - 1
}

func (m *model) has(seq int) bool { return seq >= 0 && seq < len(m.deeds) && !m.gone[seq] }

func (m *model) runnable(seq int) bool {
	for i := range seq {
		if clash, _ := deed.Clash(m.deeds[i], m.deeds[seq]); clash && !m.gone[i] {
			return false
		}
	}
	return true
}

// numbers returns the numbers of all in the table, and of those that are runnable.
func (m *model) numbers() ([]int, []int) {
	var left, ready []int
	for i := range m.deeds {
		if !m.has(i) {
			continue
		}
		left = append(left, i)
		if m.runnable(i) {
			ready = append(ready, i)
		}
	}
	return left, ready
}

func TestP17AgreesWithClash(t *testing.T) {
	for seed := range 60 {
		f := fixed(seed)
		keys, most := 2+f.below(7), 1+f.below(4)
		x, m := lock.New(), &model{}
		for range 140 {
			if f.below(2) == 0 && len(m.deeds) < api.MaxDeeds {
				d := f.deed(most, keys)
				want := m.add(d)
				if seq, e := x.Add(d); seq != want || e != api.OK {
					t.Fatalf("seed %d: Add(%v) = %d, %d, want %d", seed, d, seq, e, want)
				}
			} else {
				freeBoth(t, x, m, f.below(len(m.deeds)+2))
			}
			left, ready := m.numbers()
			if got := x.Ready(); !slices.Equal(got, ready) || x.Left() != len(left) {
				t.Fatalf("seed %d: Ready() = %v, Left() = %d, want %v of %v", seed, got, x.Left(), ready, left)
			}
		}
		left, ready := m.numbers()
		holds(t, x, left, ready)
	}
}

// freeBoth removes a transaction, runnable or not, from a table and from its model.
func freeBoth(t *testing.T, x *lock.Table, m *model, seq int) {
	t.Helper()
	want := api.OK
	if !m.has(seq) {
		want = api.ErrNone
	} else if !m.runnable(seq) {
		want = api.ErrWait
	} else {
		m.gone[seq] = true
	}
	if e := x.Free(seq); e != want {
		t.Fatalf("Free(%d) = %d, want %d", seq, e, want)
	}
}

// The first transaction in a table is always runnable, so that a table can
// always be emptied.
func TestP17NeverStuck(t *testing.T) {
	for seed := range 60 {
		f := fixed(1000 + seed)
		x := lock.New()
		for range api.MaxDeeds {
			x.Add(f.deed(8, 8))
		}
		for left := api.MaxDeeds; left > 0; left-- {
			ready := x.Ready()
			if len(ready) == 0 || x.Left() != left {
				t.Fatalf("seed %d: Ready() = %v, Left() = %d, want %d", seed, ready, x.Left(), left)
			}
			free(t, x, ready[f.below(len(ready))])
		}
		holds(t, x, nil, nil)
	}
}

// P1: odd arguments in a table of any state end in a return.
func TestP1NoPanic(t *testing.T) {
	words := []string{"", "a", "b", "A", "\x00", "\xff\xfe", "é", strings.Repeat("z", 1<<10)}
	numbers := append(oddNumbers(), 0, 1, 2, 30, 59, api.MaxValue, -api.MaxValue, api.MaxValue+1)
	tables := []*lock.Table{lock.New(), new(lock.Table), tableOf(t, set("a", 1), need("a", 1), cpy("b", "a"))}
	tables = append(tables, tableOf(t, slices.Repeat([]api.Op{set("a", 1)}, 60)...))
	for _, x := range tables {
		x.Add(api.Deed{})
		x.Add(api.Deed{Ops: make([]api.Op, 1<<16)})
		for _, kind := range []int{0, 1, 2, 3, 4, 5, 6, math.MaxInt, math.MinInt} {
			for _, key := range words {
				for _, from := range words {
					for _, n := range numbers {
						x.Add(ops(api.Op{Kind: kind, Key: key, From: from, N: n}))
						x.May(n)
						x.Free(n)
					}
				}
			}
		}
		x.Ready()
		x.Left()
	}
}
