package copies_test

import (
	"slices"
	"testing"

	"ropery/api"
	"ropery/copies"
	"ropery/deed"
	"ropery/merge"
)

// fixed is a sequence of numbers that is the same in every run.
type fixed uint64

func (f *fixed) below(n int) int {
	*f = *f*6364136223846793005 + 1442695040888963407
	return int((uint64(*f) >> 33) % uint64(n))
}

// names are the keys of all transactions, stores and maps here, in order.
func names() []string { return []string{"a", "ab", "b", "m", "mmmmmm", "y", "z"} }

func (f *fixed) deed() api.Deed {
	keys := names()
	var d api.Deed
	for range 1 + f.below(4) {
		at := f.below(len(keys))
		from := (at + 1 + f.below(len(keys)-1)) % len(keys)
		d.Ops = append(d.Ops, api.Op{Kind: 1 + f.below(5), Key: keys[at], From: keys[from], N: f.below(6)})
	}
	return d
}

func (f *fixed) cutMap() api.Map {
	var m api.Map
	for _, key := range names() {
		if f.below(3) == 0 {
			m.Cuts = append(m.Cuts, key)
		}
	}
	for range len(m.Cuts) + 1 {
		m.Owners = append(m.Owners, f.below(api.MaxOwners))
	}
	return m
}

func (f *fixed) entry() api.Entry {
	if f.below(4) == 0 {
		return api.Entry{IsMap: true, Map: f.cutMap()}
	}
	return api.Entry{Deed: f.deed()}
}

func (f *fixed) pairsOf() []api.Pair {
	var l []api.Pair
	for _, key := range names() {
		if n := f.below(9) - 3; n != 0 {
			l = append(l, api.Pair{Key: key, Value: n})
		}
	}
	return l
}

// state is what a replica has come to.
type state struct {
	m     api.Map
	l     []api.Pair
	dones []bool
}

// after executes a log on one store, from its beginning.
func (s state) after(log []api.Entry) state {
	for _, x := range log {
		done := true
		if x.IsMap {
			s.m = x.Map
		} else {
			s.l, done, _ = deed.Run(s.l, x.Deed)
		}
		s.dones = append(s.dones, done)
	}
	return s
}

// model is a Merge, and the number of entries that each replica has executed:
// the state of a replica is that after so many entries of the log.
type model struct {
	*merge.Merge
	first state
	at    []int
}

func (o *model) has(t *testing.T, c *copies.Copies) {
	t.Helper()
	log := o.Log()
	merges(t, c, o.Rounds(), o.Waits(), log...)
	for i, k := range o.at {
		s := o.first.after(log[:k])
		has(t, c, i, s.m, s.l, s.dones...)
	}
}

func (o *model) step(i int) (bool, api.Errno) {
	log := o.Log()
	if i < 0 || i >= len(o.at) {
		return false, api.ErrNone
	}
	if o.at[i] == len(log) {
		return false, api.ErrWait
	}
	o.at[i]++
	return o.first.after(log[:o.at[i]]).dones[o.at[i]-1], api.OK
}

func (o *model) take(i, from int) api.Errno {
	if min(i, from) < 0 || max(i, from) >= len(o.at) {
		return api.ErrNone
	}
	if o.at[from] < o.at[i] {
		return api.ErrWait
	}
	o.at[i] = o.at[from]
	return api.OK
}

// call makes one call of both and compares the results. It returns the name
// and the error of the call.
func (o *model) call(t *testing.T, f *fixed, c *copies.Copies, inputs int) (string, api.Errno) {
	t.Helper()
	i, from := f.below(len(o.at)+1), f.below(len(o.at)+1)
	switch f.below(8) {
	case 0, 1, 2:
		i, x := f.below(inputs), f.entry()
		e, want := c.Add(i, x), o.Add(i, x)
		if e != want {
			t.Errorf("Add(%d, %v) = %d, want %d", i, x, e, want)
		}
		return "add", e
	case 3:
		i := f.below(inputs)
		n, e := c.Close(i)
		want, wantE := o.Close(i)
		if n != want || e != wantE {
			t.Errorf("Close(%d) = %d, %d, want %d, %d", i, n, e, want, wantE)
		}
		return "close", e
	case 4:
		e, want := c.Take(i, from), o.take(i, from)
		if e != want {
			t.Errorf("Take(%d, %d) = %d, want %d", i, from, e, want)
		}
		return "take", e
	default:
		done, e := c.Step(i)
		want, wantE := o.step(i)
		if done != want || e != wantE {
			t.Errorf("Step(%d) = %v, %d, want %v, %d", i, done, e, want, wantE)
		}
		return "step", e
	}
}

// Every replica has the state after a part of the log, from its beginning.
func TestP46P47P48P49AgreeWithModel(t *testing.T) {
	calls := map[string]map[api.Errno]int{"add": {}, "close": {}, "take": {}, "step": {}}
	for seed := range 80 {
		f := fixed(seed)
		inputs, n := 1+f.below(3), 1+f.below(4)
		first := state{m: f.cutMap(), l: f.pairsOf()}
		c := copying(t, inputs, n, first.m, first.l)
		m, _ := merge.New(inputs)
		o := &model{m, first, make([]int, n)}
		for call := range 200 {
			name, e := o.call(t, &f, c, inputs)
			calls[name][e]++
			o.has(t, c)
			if t.Failed() {
				t.Fatalf("seed %d, call %d: %s", seed, call, name)
			}
		}
	}
	step, take := calls["step"], calls["take"]
	if min(step[api.OK], step[api.ErrWait], step[api.ErrNone], take[api.OK], take[api.ErrWait], take[api.ErrNone]) < 100 {
		t.Error("the calls are too much alike:", calls)
	}
}

// sameAs checks that two replicas, which may be of different Copies, are equal.
func sameAs(t *testing.T, c *copies.Copies, i int, d *copies.Copies, k int) {
	t.Helper()
	dones, _ := c.Done(i)
	others, _ := d.Done(k)
	all, _ := c.All(i)
	other, _ := d.All(k)
	if !slices.Equal(dones, others) || !slices.Equal(all, other) {
		t.Errorf("replicas %d and %d are not equal: %v, %v and %v, %v", i, k, all, dones, other, others)
	}
	for owner := range 4 {
		part, _ := c.Part(i, owner)
		other, _ := d.Part(k, owner)
		if !slices.Equal(part, other) {
			t.Errorf("replicas %d and %d are not equal: %v and %v of owner %d", i, k, part, other, owner)
		}
	}
}

// logged closes one batch of one input with all entries of a log.
func logged(t *testing.T, first state, log []api.Entry) *copies.Copies {
	t.Helper()
	c := copying(t, 1, 1, first.m, first.l)
	adds(t, c, 0, log...)
	closes(t, c, 0, 1)
	return c
}

// A truncated log reproduces the state at that point: other Copies that get
// the log so far, all at once, have the same replicas.
func TestP47P48TruncatedLog(t *testing.T) {
	for seed := range 20 {
		f := fixed(3000 + seed)
		first := state{m: f.cutMap(), l: f.pairsOf()}
		c := copying(t, 2, 1, first.m, first.l)
		for k := range 24 {
			adds(t, c, f.below(2), f.entry())
			if k%5 == 4 {
				c.Close(0)
				c.Close(1)
			}
		}
		log := c.Log()
		for k := range log {
			short := logged(t, first, log[:k])
			for range k {
				short.Step(0)
			}
			waits(t, short, 0)
			sameAs(t, c, 0, short, 0)
			c.Step(0)
		}
	}
}

// Replicas that have executed equally many entries are equal, whenever the
// inputs came, and whenever they stepped or took over a state.
func TestP47P49TimingHasNoEffect(t *testing.T) {
	for seed := range 20 {
		f := fixed(4000 + seed)
		first := state{m: f.cutMap(), l: f.pairsOf()}
		var batches [2][][]api.Entry
		for i := range batches {
			for range 5 {
				var batch []api.Entry
				for range f.below(4) {
					batch = append(batch, f.entry())
				}
				batches[i] = append(batches[i], batch)
			}
		}
		want := timed(t, &f, first, batches)
		for range 5 {
			c := timed(t, &f, first, batches)
			if !equalEntries(c.Log(), want.Log()) {
				t.Fatalf("seed %d: the log is %v or %v", seed, c.Log(), want.Log())
			}
			for i := range 3 {
				sameAs(t, c, i, want, 0)
			}
		}
		if t.Failed() {
			t.Fatalf("seed %d", seed)
		}
	}
}

// timed mixes the batches of two inputs with steps and takes of three
// replicas, until all have executed everything.
func timed(t *testing.T, f *fixed, first state, batches [2][][]api.Entry) *copies.Copies {
	t.Helper()
	c := copying(t, 2, 3, first.m, first.l)
	var closed [2]int
	for closed != [2]int{5, 5} {
		if i := f.below(2); closed[i] < 5 {
			adds(t, c, i, batches[i][closed[i]]...)
			closed[i]++
			closes(t, c, i, closed[i])
		}
		for range f.below(4) {
			c.Step(f.below(3))
		}
		c.Take(f.below(3), f.below(3))
	}
	for i := range 3 {
		for range len(c.Log()) {
			c.Step(i)
		}
		waits(t, c, i)
	}
	return c
}
