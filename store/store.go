// Package store: keys, and their values: see doc/01-store.md.
package store

import (
	"slices"
	"strings"

	"ropery/api"
)

// Key reports whether s is a valid key.
func Key(s string) bool {
	if len(s) < 1 || len(s) > api.MaxKey {
		return false
	}
	for i := range len(s) {
		if s[i] < 'a' || s[i] > 'z' {
			return false
		}
	}
	return true
}

// Value reports whether n is a valid value.
func Value(n int) bool {
	return -api.MaxValue <= n && n <= api.MaxValue
}

// Check validates a store.
func Check(l []api.Pair) api.Errno {
	// No valid key is empty, so that the first pair always follows this one.
	before := ""
	for _, p := range l {
		if !Key(p.Key) {
			return api.ErrForm
		}
		if !Value(p.Value) || p.Value == 0 {
			return api.ErrArg
		}
		if p.Key <= before {
			return api.ErrForm
		}
		before = p.Key
	}
	return api.OK
}

// Get returns the value of a key, which is 0 for a key that is not in the store.
func Get(l []api.Pair, key string) (int, api.Errno) {
	if e := Check(l); e != api.OK {
		return 0, e
	}
	if !Key(key) {
		return 0, api.ErrForm
	}
	if i, there := find(l, key); there {
		return l[i].Value, api.OK
	}
	return 0, api.OK
}

// Put returns the store in which a key has the value n.
func Put(l []api.Pair, key string, n int) ([]api.Pair, api.Errno) {
	if e := Check(l); e != api.OK {
		return nil, e
	}
	if !Key(key) {
		return nil, api.ErrForm
	}
	if !Value(n) {
		return nil, api.ErrArg
	}
	i, there := find(l, key)
	below, above := l[:i], l[i:]
	if there {
		above = above[1:]
	}
	var changed []api.Pair
	if n != 0 {
		changed = []api.Pair{{Key: key, Value: n}}
	}
	return slices.Concat(below, changed, above), api.OK
}

// Scan returns the pairs with from <= key < to; an empty to means no upper bound.
func Scan(l []api.Pair, from, to string) ([]api.Pair, api.Errno) {
	if e := Check(l); e != api.OK {
		return nil, e
	}
	first, _ := find(l, from)
	end := len(l)
	if to != "" {
		end, _ = find(l, to)
	}
	// The bounds may be the wrong way round, and then there is no pair between them.
	end = max(first, end)
	// Concat and not Clone: Clone of an empty slice still points into its argument.
	return slices.Concat(l[first:end]), api.OK
}

// Join returns the pairs of two stores that have no key in common.
func Join(a, b []api.Pair) ([]api.Pair, api.Errno) {
	if e := Check(a); e != api.OK {
		return nil, e
	}
	if e := Check(b); e != api.OK {
		return nil, e
	}
	both := make([]api.Pair, 0, len(a)+len(b))
	for len(a) > 0 && len(b) > 0 {
		if a[0].Key == b[0].Key {
			return nil, api.ErrThere
		}
		if a[0].Key < b[0].Key {
			both, a = append(both, a[0]), a[1:]
		} else {
			both, b = append(both, b[0]), b[1:]
		}
	}
	both = append(both, a...)
	return append(both, b...), api.OK
}

// Total returns the sum of all values.
func Total(l []api.Pair) (int, api.Errno) {
	if e := Check(l); e != api.OK {
		return 0, e
	}
	// There are fewer than 2^29 valid keys, so that the sum fits.
	sum := 0
	for _, p := range l {
		sum += p.Value
	}
	return sum, api.OK
}

// find returns the index of the first pair whose key is not below key, and
// whether it has that key. The store is valid, but key may be any string.
func find(l []api.Pair, key string) (int, bool) {
	return slices.BinarySearchFunc(l, key, func(p api.Pair, k string) int {
		return strings.Compare(p.Key, k)
	})
}
