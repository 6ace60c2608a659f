package merge_test

import (
	"cmp"
	"slices"
	"testing"

	"ropery/api"
	"ropery/merge"
)

// fixed is a sequence of numbers that is the same in every run.
type fixed uint64

func (f *fixed) below(n int) int {
	*f = *f*6364136223846793005 + 1442695040888963407
	return int((uint64(*f) >> 33) % uint64(n))
}

// entry returns a valid entry in which only the field that counts is set.
func (f *fixed) entry() api.Entry {
	if f.below(4) == 0 {
		return mapEntry(f.below(4), "f", f.below(4), "m", f.below(4))
	}
	return deedEntry(slices.Repeat([]api.Op{add("a", f.below(1000))}, 1+f.below(8))...)
}

// placed is an entry with the batch and the input that it was added to.
type placed struct {
	batch, input int
	x            api.Entry
}

// sheet is a model of a Merge: all entries in the order of adding, and the
// number of closed batches of each input.
type sheet struct {
	list   []placed
	closed []int
}

func (s *sheet) add(i int, x api.Entry) api.Errno {
	if len(s.list) == 60 {
		return api.ErrLarge
	}
	s.list = append(s.list, placed{s.closed[i], i, x})
	return api.OK
}

func (s *sheet) close(i int) (int, api.Errno) {
	if s.closed[i] == 60 {
		return 0, api.ErrLarge
	}
	s.closed[i]++
	return s.closed[i], api.OK
}

// log sorts the entries of the complete rounds by batch and input; those that
// are in one batch stay in order.
func (s *sheet) log() []api.Entry {
	list := slices.Clone(s.list)
	slices.SortStableFunc(list, func(a, b placed) int {
		return cmp.Or(cmp.Compare(a.batch, b.batch), cmp.Compare(a.input, b.input))
	})
	var l []api.Entry
	for _, p := range list {
		if p.batch < slices.Min(s.closed) {
			l = append(l, p.x)
		}
	}
	return l
}

func (s *sheet) waits() []int {
	var l []int
	for i, n := range s.closed {
		if !slices.ContainsFunc(s.closed, func(other int) bool { return other < n }) {
			l = append(l, i)
		}
	}
	return l
}

// seen counts what occurred in a comparison with the model.
type seen struct{ full, done, most, waiting, all int }

func (s *seen) count(model *sheet, e api.Errno) {
	s.full += btoi(e == api.ErrLarge)
	s.done += btoi(e == api.OK)
	s.most = max(s.most, len(model.log()))
	s.waiting += btoi(len(model.waits()) < len(model.closed))
	s.all += btoi(len(model.waits()) == len(model.closed))
}

func btoi(is bool) int {
	if is {
		return 1
	}
	return 0
}

func TestP41P42P43P44P45AgreeWithModel(t *testing.T) {
	var s seen
	for seed := range 60 {
		f := fixed(seed)
		n := 1 + f.below(4)
		m, model := merging(t, n), &sheet{closed: make([]int, n)}
		// Some inputs close much more often than others.
		often := 1 + f.below(4)
		for call := range 150 {
			i := f.below(n)
			if f.below(6) < often-i {
				got, e := m.Close(i)
				want, wantE := model.close(i)
				if got != want || e != wantE {
					t.Fatalf("seed %d, call %d: Close(%d) = %d, %d, want %d, %d", seed, call, i, got, e, want, wantE)
				}
				s.count(model, e)
			} else {
				x := f.entry()
				e := m.Add(i, x)
				if want := model.add(i, x); e != want {
					t.Fatalf("seed %d, call %d: Add(%d) = %d, want %d", seed, call, i, e, want)
				}
				s.count(model, e)
			}
			has(t, m, slices.Min(model.closed), model.waits(), model.log()...)
			if t.Failed() {
				t.Fatalf("seed %d, call %d", seed, call)
			}
		}
	}
	if s.full < 500 || s.done < 500 || s.most < 30 || s.waiting < 500 || s.all < 500 {
		t.Errorf("the calls are too much alike: %+v", s)
	}
}

// call is an entry for an input, or its closing if there is none.
type call struct{ x *api.Entry }

func (c call) to(m *merge.Merge, i int) {
	if c.x == nil {
		m.Close(i)
		return
	}
	m.Add(i, *c.x)
}

// calls returns the calls of an input, in which it closes six batches.
func (f *fixed) calls() []call {
	var l []call
	for range 6 {
		for range f.below(3) {
			x := f.entry()
			l = append(l, call{&x})
		}
		l = append(l, call{})
	}
	return l
}

// mixed makes the calls of all inputs, those of each input in order, and
// checks that the log only grows.
func (f *fixed) mixed(t *testing.T, all [][]call) []api.Entry {
	t.Helper()
	m, at := merging(t, len(all)), make([]int, len(all))
	var log []api.Entry
	for left := len(slices.Concat(all...)); left > 0; {
		i := f.below(len(all))
		if at[i] == len(all[i]) {
			continue
		}
		all[i][at[i]].to(m, i)
		at[i]++
		left--
		now := m.Log()
		if len(now) < len(log) || !equalEntries(now[:len(log)], log) {
			t.Fatalf("the log %v was followed by %v", log, now)
		}
		log = now
	}
	return log
}

// The timing of the inputs has no effect on the log.
func TestP44TimingHasNoEffect(t *testing.T) {
	for seed := range 40 {
		f := fixed(2000 + seed)
		var all [][]call
		for range 1 + f.below(4) {
			all = append(all, f.calls())
		}
		want := f.mixed(t, all)
		for range 10 {
			if got := f.mixed(t, all); !equalEntries(got, want) {
				t.Fatalf("seed %d: the log is %v or %v", seed, got, want)
			}
		}
	}
}
