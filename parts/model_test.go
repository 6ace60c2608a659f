package parts_test

import (
	"slices"
	"testing"

	"ropery/api"
	"ropery/deed"
	"ropery/parts"
)

// fixed is a sequence of numbers that is the same in every run.
type fixed uint64

func (f *fixed) below(n int) int {
	*f = *f*6364136223846793005 + 1442695040888963407
	return int((uint64(*f) >> 33) % uint64(n))
}

// names are the keys of all transactions, stores and maps here, in order.
func names() []string {
	return []string{"a", "aa", "ab", "b", "ba", "c", "m", "mmmmmm", "y", "z", "zz"}
}

func (f *fixed) deed() api.Deed {
	keys := names()
	var d api.Deed
	for range 1 + f.below(api.MaxOps) {
		at := f.below(len(keys))
		from := (at + 1 + f.below(len(keys)-1)) % len(keys)
		d.Ops = append(d.Ops, api.Op{Kind: 1 + f.below(5), Key: keys[at], From: keys[from], N: f.below(6)})
	}
	return d
}

func (f *fixed) cutMap() api.Map {
	var m api.Map
	for _, key := range names() {
		if f.below(3) == 0 {
			m.Cuts = append(m.Cuts, key)
		}
	}
	for range len(m.Cuts) + 1 {
		m.Owners = append(m.Owners, f.below(api.MaxOwners))
	}
	return m
}

// near returns a map that differs from m in at most one owner.
func (f *fixed) near(m api.Map) api.Map {
	owners := slices.Clone(m.Owners)
	owners[f.below(len(owners))] = f.below(api.MaxOwners)
	return api.Map{Cuts: m.Cuts, Owners: owners}
}

func (f *fixed) pairsOf() []api.Pair {
	var l []api.Pair
	for _, key := range names() {
		if n := f.below(9) - 3; n != 0 {
			l = append(l, api.Pair{Key: key, Value: n})
		}
	}
	return l
}

// ownerOf returns the owner of a key: that of the last cut which is not above
// it, or the first owner.
func ownerOf(m api.Map, key string) int {
	owner := m.Owners[0]
	for i, cut := range m.Cuts {
		if cut <= key {
			owner = m.Owners[i+1]
		}
	}
	return owner
}

// partsOf divides a store by the owner of each key.
func partsOf(m api.Map, l []api.Pair) four {
	var x four
	for _, p := range l {
		owner := ownerOf(m, p.Key)
		x[owner] = append(x[owner], p)
	}
	return x
}

// whoOf returns the owners of the keys that a transaction names.
func whoOf(m api.Map, d api.Deed) []int {
	var takes [api.MaxOwners]bool
	for _, op := range d.Ops {
		takes[ownerOf(m, op.Key)] = true
		if op.Kind == api.Copy || op.Kind == api.Move {
			takes[ownerOf(m, op.From)] = true
		}
	}
	var owners []int
	for owner, is := range takes {
		if is {
			owners = append(owners, owner)
		}
	}
	return owners
}

// central is a store that is not divided, beside the map of one that is.
type central struct {
	m api.Map
	l []api.Pair
}

func (c *central) do(t *testing.T, p *parts.Parts, d api.Deed) bool {
	t.Helper()
	who(t, p, d, whoOf(c.m, d)...)
	next, done, _ := deed.Run(c.l, d)
	c.l = next
	does(t, p, d, done)
	return done
}

func (c *central) turn(t *testing.T, p *parts.Parts, m api.Map) int {
	t.Helper()
	want := 0
	for _, x := range c.l {
		if ownerOf(c.m, x.Key) != ownerOf(m, x.Key) {
			want++
		}
	}
	c.m = m
	if moved, e := p.Turn(m); moved != want || e != api.OK {
		t.Errorf("Turn(%v) = %d, %d, want %d", m, moved, e, want)
	}
	return want
}

// Partitioned execution equals execution on one store, with maps in between.
func TestP28P29P30P31P32AgreeWithOneStore(t *testing.T) {
	dones, moves := map[bool]int{}, map[int]int{}
	for seed := range 100 {
		f := fixed(seed)
		c := &central{f.cutMap(), f.pairsOf()}
		p := divided(t, c.m, c.l)
		has(t, p, c.m, c.l, partsOf(c.m, c.l))
		for step := range 60 {
			switch f.below(6) {
			case 0:
				moves[c.turn(t, p, f.cutMap())]++
			case 1:
				moves[c.turn(t, p, f.near(c.m))]++
			default:
				dones[c.do(t, p, f.deed())]++
			}
			has(t, p, c.m, c.l, partsOf(c.m, c.l))
			if t.Failed() {
				t.Fatalf("seed %d, step %d", seed, step)
			}
		}
	}
	if dones[true] < 500 || dones[false] < 500 || moves[0] < 50 || moves[1] < 50 || moves[8] < 50 {
		t.Error("the steps are too much alike:", dones, moves)
	}
}

// A store that is divided anew before every transaction has the same results
// as one that never is.
func TestP31TurnHasNoVisibleEffect(t *testing.T) {
	for seed := range 50 {
		f := fixed(1000 + seed)
		l := f.pairsOf()
		still, turned := divided(t, f.cutMap(), l), divided(t, f.cutMap(), l)
		for range 40 {
			turned.Turn(f.cutMap())
			d := f.deed()
			a, e := still.Do(d)
			b, g := turned.Do(d)
			if a != b || e != api.OK || g != api.OK || !slices.Equal(still.All(), turned.All()) {
				t.Fatalf("seed %d: Do(%v) = %v, %d and %v, %d, with %v and %v", seed, d, a, e, b, g, still.All(), turned.All())
			}
		}
	}
}

// New from what a partitioned store tells has the same state.
func TestP28P32NewFromAllAndMap(t *testing.T) {
	f := fixed(7)
	p := divided(t, f.cutMap(), f.pairsOf())
	for range 100 {
		p.Do(f.deed())
		p.Turn(f.cutMap())
		m, l := p.Map(), p.All()
		has(t, divided(t, m, l), m, l, partsOf(m, l))
	}
}
