package store_test

import (
	"math"
	"slices"
	"strings"
	"testing"

	"ropery/api"
	"ropery/store"
)

// pairs builds a list from keys and values in turn.
func pairs(words ...any) []api.Pair {
	var l []api.Pair
	for i := 0; i < len(words); i += 2 {
		l = append(l, api.Pair{Key: words[i].(string), Value: words[i+1].(int)})
	}
	return l
}

// badStore is a list that is not a store, with the error that Check returns.
type badStore struct {
	name string
	l    []api.Pair
	want api.Errno
}

func badStores() []badStore {
	return []badStore{
		{"empty key", pairs("", 1), api.ErrForm},
		{"key with a capital", pairs("A", 1), api.ErrForm},
		{"key of 7 bytes", pairs("aaaaaaa", 1), api.ErrForm},
		{"value 0", pairs("a", 0), api.ErrArg},
		{"value too large", pairs("a", api.MaxValue+1), api.ErrArg},
		{"value too small", pairs("a", -api.MaxValue-1), api.ErrArg},
		{"largest integer", pairs("a", math.MaxInt), api.ErrArg},
		{"smallest integer", pairs("a", math.MinInt), api.ErrArg},
		{"same key twice", pairs("a", 1, "a", 1), api.ErrForm},
		{"keys descending", pairs("b", 1, "a", 1), api.ErrForm},
		{"prefix behind longer key", pairs("ab", 1, "a", 1), api.ErrForm},
		{"ordered by length only", pairs("b", 1, "aa", 1), api.ErrForm},
		{"last of three not greater", pairs("a", 1, "c", 1, "b", 1), api.ErrForm},
		{"key before value", pairs("A", 0), api.ErrForm},
		{"value before order", pairs("b", 1, "a", 0), api.ErrArg},
		{"value before same key", pairs("b", 1, "b", api.MaxValue+1), api.ErrArg},
		{"key before order", pairs("b", 1, "A", 1), api.ErrForm},
		{"first pair decides: value", pairs("a", 0, "A", 1), api.ErrArg},
		{"first pair decides: key", pairs("A", 1, "b", 0), api.ErrForm},
		{"first pair decides: order", pairs("b", 1, "a", 1, "c", 0), api.ErrForm},
	}
}

func TestP3KeyLengths(t *testing.T) {
	for n := range 12 {
		want := n >= 1 && n <= 6
		for _, c := range []string{"a", "m", "z"} {
			if s := strings.Repeat(c, n); store.Key(s) != want {
				t.Errorf("Key(%q) = %v", s, !want)
			}
		}
	}
	if store.Key(strings.Repeat("a", 1<<20)) {
		t.Error("a long key is valid")
	}
}

func TestP3KeyBytes(t *testing.T) {
	for b := range 256 {
		want := b >= 'a' && b <= 'z'
		c := string([]byte{byte(b)})
		for _, s := range []string{c, c + "a", "a" + c, "a" + c + "a", "aaaaa" + c, c + "aaaaa"} {
			if store.Key(s) != want {
				t.Errorf("Key(%q) = %v", s, !want)
			}
		}
	}
	for _, s := range []string{"é", "日", "aé", "a b", "a\n", "\x00", "a\x00", "a1"} {
		if store.Key(s) {
			t.Errorf("Key(%q) = true", s)
		}
	}
}

func TestP3Value(t *testing.T) {
	for _, n := range []int{0, 1, -1, 42, 999999999, -999999999, 1000000000, -1000000000} {
		if !store.Value(n) {
			t.Errorf("Value(%d) = false", n)
		}
	}
	for _, n := range []int{1000000001, -1000000001, 1 << 32, -1 << 32, 1<<32 + 1, math.MaxInt, math.MinInt, math.MinInt + 1} {
		if store.Value(n) {
			t.Errorf("Value(%d) = true", n)
		}
	}
}

func TestP4CheckAcceptsStores(t *testing.T) {
	for _, l := range [][]api.Pair{
		nil,
		{},
		pairs("a", 1),
		pairs("zzzzzz", -1),
		pairs("a", api.MaxValue, "b", -api.MaxValue),
		pairs("a", 1, "aa", 1, "ab", 1, "b", 1, "ba", 1),
		pairs("az", 1, "b", 1),
		pairs("aaaaaa", 1, "aaaaab", 1, "aaaab", 1),
	} {
		if e := store.Check(l); e != api.OK {
			t.Errorf("Check(%v) = %d", l, e)
		}
	}
}

func TestP4CheckErrors(t *testing.T) {
	for _, bad := range badStores() {
		if e := store.Check(bad.l); e != bad.want {
			t.Errorf("%s: Check(%v) = %d, want %d", bad.name, bad.l, e, bad.want)
		}
	}
}

// The other arguments are also wrong, with an error that differs from the one
// of Check wherever there is one, so that the order of the checks shows.
func TestP4OtherFunctionsCheckFirst(t *testing.T) {
	for _, bad := range badStores() {
		for _, key := range []string{"a", "q", "", "A"} {
			if n, e := store.Get(bad.l, key); n != 0 || e != bad.want {
				t.Errorf("%s: Get(%v, %q) = %d, %d, want %d", bad.name, bad.l, key, n, e, bad.want)
			}
			for _, n := range []int{0, 1, api.MaxValue + 1} {
				if l, e := store.Put(bad.l, key, n); len(l) != 0 || e != bad.want {
					t.Errorf("%s: Put(%v, %q, %d) = %v, %d, want %d", bad.name, bad.l, key, n, l, e, bad.want)
				}
			}
			for _, to := range []string{"", "a", "z"} {
				if l, e := store.Scan(bad.l, key, to); len(l) != 0 || e != bad.want {
					t.Errorf("%s: Scan(%v, %q, %q) = %v, %d, want %d", bad.name, bad.l, key, to, l, e, bad.want)
				}
			}
		}
		if n, e := store.Total(bad.l); n != 0 || e != bad.want {
			t.Errorf("%s: Total(%v) = %d, %d, want %d", bad.name, bad.l, n, e, bad.want)
		}
	}
}

func TestP4JoinChecksBothInOrder(t *testing.T) {
	good := pairs("a", 1, "b", 2)
	for _, x := range badStores() {
		if l, e := store.Join(x.l, good); len(l) != 0 || e != x.want {
			t.Errorf("%s: Join(%v, %v) = %v, %d, want %d", x.name, x.l, good, l, e, x.want)
		}
		if l, e := store.Join(good, x.l); len(l) != 0 || e != x.want {
			t.Errorf("%s: Join(%v, %v) = %v, %d, want %d", x.name, good, x.l, l, e, x.want)
		}
		if l, e := store.Join(nil, x.l); len(l) != 0 || e != x.want {
			t.Errorf("%s: Join(nil, %v) = %v, %d, want %d", x.name, x.l, l, e, x.want)
		}
		for _, y := range badStores() {
			if l, e := store.Join(x.l, y.l); len(l) != 0 || e != x.want {
				t.Errorf("Join(%v, %v) = %v, %d, want %d", x.l, y.l, l, e, x.want)
			}
		}
	}
	// The bad pair is behind a common key and must still be found first.
	if l, e := store.Join(good, pairs("a", 1, "b", 0)); len(l) != 0 || e != api.ErrArg {
		t.Error("common key before a bad pair:", l, e)
	}
}

func TestP5Get(t *testing.T) {
	l := pairs("a", 3, "aa", api.MaxValue, "c", -1, "zzzzzz", -api.MaxValue)
	want := map[string]int{"a": 3, "aa": api.MaxValue, "c": -1, "zzzzzz": -api.MaxValue,
		"aaa": 0, "ab": 0, "b": 0, "ca": 0, "z": 0, "zzzzz": 0}
	for key, n := range want {
		if got, e := store.Get(l, key); got != n || e != api.OK {
			t.Errorf("Get(%q) = %d, %d, want %d", key, got, e, n)
		}
	}
	if n, e := store.Get(nil, "a"); n != 0 || e != api.OK {
		t.Error("empty store:", n, e)
	}
	for _, key := range []string{"", "A", "a ", "a1", "aaaaaaa", "\xff", "é"} {
		if n, e := store.Get(l, key); n != 0 || e != api.ErrForm {
			t.Errorf("Get(%q) = %d, %d, want ErrForm", key, n, e)
		}
	}
}

func TestP6Put(t *testing.T) {
	l := pairs("b", 3, "d", -1, "f", 9)
	for _, c := range []struct {
		l    []api.Pair
		key  string
		n    int
		want []api.Pair
	}{
		{nil, "a", 1, pairs("a", 1)},
		{nil, "a", 0, nil},
		{pairs("a", 1), "a", 0, nil},
		{l, "a", 1, pairs("a", 1, "b", 3, "d", -1, "f", 9)},
		{l, "c", 1, pairs("b", 3, "c", 1, "d", -1, "f", 9)},
		{l, "g", 1, pairs("b", 3, "d", -1, "f", 9, "g", 1)},
		{l, "ba", 1, pairs("b", 3, "ba", 1, "d", -1, "f", 9)},
		{l, "b", 7, pairs("b", 7, "d", -1, "f", 9)},
		{l, "d", 7, pairs("b", 3, "d", 7, "f", 9)},
		{l, "f", 7, pairs("b", 3, "d", -1, "f", 7)},
		{l, "d", -1, l},
		{l, "b", 0, pairs("d", -1, "f", 9)},
		{l, "d", 0, pairs("b", 3, "f", 9)},
		{l, "f", 0, pairs("b", 3, "d", -1)},
		{l, "a", 0, l},
		{l, "c", 0, l},
		{l, "g", 0, l},
		{l, "d", api.MaxValue, pairs("b", 3, "d", api.MaxValue, "f", 9)},
		{l, "d", -api.MaxValue, pairs("b", 3, "d", -api.MaxValue, "f", 9)},
	} {
		got, e := store.Put(c.l, c.key, c.n)
		if !slices.Equal(got, c.want) || e != api.OK {
			t.Errorf("Put(%v, %q, %d) = %v, %d, want %v", c.l, c.key, c.n, got, e, c.want)
		}
	}
}

func TestP6PutErrors(t *testing.T) {
	l := pairs("b", 3, "d", -1)
	for _, c := range []struct {
		key  string
		n    int
		want api.Errno
	}{
		{"", 1, api.ErrForm},
		{"A", 1, api.ErrForm},
		{"aaaaaaa", 1, api.ErrForm},
		{"", 0, api.ErrForm},
		{"A", api.MaxValue + 1, api.ErrForm},
		{"a", api.MaxValue + 1, api.ErrArg},
		{"b", -api.MaxValue - 1, api.ErrArg},
		{"d", math.MaxInt, api.ErrArg},
		{"d", math.MinInt, api.ErrArg},
	} {
		if got, e := store.Put(l, c.key, c.n); len(got) != 0 || e != c.want {
			t.Errorf("Put(%q, %d) = %v, %d, want %d", c.key, c.n, got, e, c.want)
		}
	}
}

// bounds are strings below, between, at and above keys, valid keys or not.
func bounds() []string {
	return []string{"", "\x00", " ", "A", "`", "a", "a\x00", "aa", "aaz", "ab", "az", "b", "b\x00", "b~", "bb",
		"c", "cccccc", "ccccccc", "d", "z", "zzzzzz", "zzzzzz\x00", "{", "é", "\xff", strings.Repeat("a", 1000)}
}

func TestP7ScanAllBounds(t *testing.T) {
	l := pairs("a", 1, "aa", 2, "ab", 3, "b", 4, "bb", 5, "cccccc", 6, "zzzzzz", 7)
	for _, l := range [][]api.Pair{nil, l[:1], l} {
		for _, from := range bounds() {
			for _, to := range bounds() {
				var want []api.Pair
				for _, p := range l {
					if from <= p.Key && (to == "" || p.Key < to) {
						want = append(want, p)
					}
				}
				if got, e := store.Scan(l, from, to); !slices.Equal(got, want) || e != api.OK {
					t.Errorf("Scan(%v, %q, %q) = %v, %d, want %v", l, from, to, got, e, want)
				}
			}
		}
	}
}

func TestP7Scan(t *testing.T) {
	l := pairs("a", 1, "b", 2, "c", 3)
	for _, c := range []struct {
		from, to string
		want     []api.Pair
	}{
		{"", "", l},
		{"a", "c", pairs("a", 1, "b", 2)},
		{"b", "", pairs("b", 2, "c", 3)},
		{"", "b", pairs("a", 1)},
		{"b", "b", nil},
		{"c", "a", nil},
		{"aa", "bb", pairs("b", 2)},
		{"d", "", nil},
		{"", "\x00", nil},
		{"\xff", "", nil},
		{"", "\xff", l},
	} {
		if got, e := store.Scan(l, c.from, c.to); !slices.Equal(got, c.want) || e != api.OK {
			t.Errorf("Scan(%q, %q) = %v, %d, want %v", c.from, c.to, got, e, c.want)
		}
	}
}

func TestP8Join(t *testing.T) {
	for _, c := range []struct{ a, b, want []api.Pair }{
		{nil, nil, nil},
		{pairs("a", 1), nil, pairs("a", 1)},
		{pairs("a", 1, "c", 3), pairs("b", 2, "d", 4), pairs("a", 1, "b", 2, "c", 3, "d", 4)},
		{pairs("a", 1, "b", 2), pairs("c", 3, "d", 4), pairs("a", 1, "b", 2, "c", 3, "d", 4)},
		{pairs("a", 1, "d", 4), pairs("b", 2, "c", 3), pairs("a", 1, "b", 2, "c", 3, "d", 4)},
		{pairs("a", 1), pairs("aa", -1), pairs("a", 1, "aa", -1)},
	} {
		if got, e := store.Join(c.a, c.b); !slices.Equal(got, c.want) || e != api.OK {
			t.Errorf("Join(%v, %v) = %v, %d, want %v", c.a, c.b, got, e, c.want)
		}
		if got, e := store.Join(c.b, c.a); !slices.Equal(got, c.want) || e != api.OK {
			t.Errorf("Join(%v, %v) = %v, %d, want %v", c.b, c.a, got, e, c.want)
		}
	}
}

func TestP8JoinCommonKey(t *testing.T) {
	for _, c := range []struct{ a, b []api.Pair }{
		{pairs("a", 1), pairs("a", 1)},
		{pairs("a", 1), pairs("a", -1)},
		{pairs("a", 1, "z", 1), pairs("b", 1, "c", 1, "z", 2)},
		{pairs("a", 1, "m", 1, "z", 1), pairs("b", 1, "m", 1, "y", 1)},
		{pairs("m", 1), pairs("a", 1, "b", 1, "m", 1, "y", 1)},
	} {
		if got, e := store.Join(c.a, c.b); len(got) != 0 || e != api.ErrThere {
			t.Errorf("Join(%v, %v) = %v, %d", c.a, c.b, got, e)
		}
		if got, e := store.Join(c.b, c.a); len(got) != 0 || e != api.ErrThere {
			t.Errorf("Join(%v, %v) = %v, %d", c.b, c.a, got, e)
		}
	}
}

func TestP9Total(t *testing.T) {
	for _, c := range []struct {
		l    []api.Pair
		want int
	}{
		{nil, 0},
		{pairs("a", 7), 7},
		{pairs("a", 7, "b", -9), -2},
		{pairs("a", 7, "b", -7), 0},
		{pairs("a", 7, "b", -9, "c", 100), 98},
	} {
		if got, e := store.Total(c.l); got != c.want || e != api.OK {
			t.Errorf("Total(%v) = %d, %d, want %d", c.l, got, e, c.want)
		}
	}
}

// The sum of many values is beyond 32 bits, and beyond a valid value.
func TestP9TotalOfLargeValues(t *testing.T) {
	for _, n := range []int{api.MaxValue, -api.MaxValue} {
		var l []api.Pair
		for b := range 26 {
			l = append(l, api.Pair{Key: string([]byte{byte('a' + b)}), Value: n})
		}
		if got, e := store.Total(l); got != 26*n || e != api.OK {
			t.Errorf("Total = %d, %d, want %d", got, e, 26*n)
		}
	}
}
