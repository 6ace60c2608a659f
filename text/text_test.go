package text_test

import (
	"math"
	"slices"
	"strconv"
	"strings"
	"testing"

	"ropery/api"
	"ropery/text"
)

func set(key string, n int) api.Op        { return api.Op{Kind: api.Set, Key: key, N: n} }
func add(key string, n int) api.Op        { return api.Op{Kind: api.Add, Key: key, N: n} }
func cpy(key, from string) api.Op         { return api.Op{Kind: api.Copy, Key: key, From: from} }
func need(key string, n int) api.Op       { return api.Op{Kind: api.Need, Key: key, N: n} }
func move(key, from string, n int) api.Op { return api.Op{Kind: api.Move, Key: key, From: from, N: n} }

func ops(l ...api.Op) api.Deed { return api.Deed{Ops: l} }

// times is a transaction of n equal operations.
func times(n int, op api.Op) api.Deed { return api.Deed{Ops: slices.Repeat([]api.Op{op}, n)} }

// mapOf builds a map from owners and cuts in turn, with an owner at both ends.
func mapOf(words ...any) api.Map {
	var m api.Map
	for _, w := range words {
		switch x := w.(type) {
		case string:
			m.Cuts = append(m.Cuts, x)
		case int:
			m.Owners = append(m.Owners, x)
		}
	}
	return m
}

func deedEntry(l ...api.Op) api.Entry    { return api.Entry{Deed: ops(l...)} }
func mapEntry(words ...any) api.Entry    { return api.Entry{IsMap: true, Map: mapOf(words...)} }
func equalDeed(a, b api.Deed) bool       { return slices.Equal(a.Ops, b.Ops) }
func emptyDeed(d api.Deed) bool          { return len(d.Ops) == 0 }
func emptyMap(m api.Map) bool            { return len(m.Cuts) == 0 && len(m.Owners) == 0 }
func emptyEntry(x api.Entry) bool        { return emptyDeed(x.Deed) && !x.IsMap && emptyMap(x.Map) }
func equalEntries(a, b []api.Entry) bool { return slices.EqualFunc(a, b, equalEntry) }

func equalMap(a, b api.Map) bool {
	return slices.Equal(a.Cuts, b.Cuts) && slices.Equal(a.Owners, b.Owners)
}

func equalEntry(a, b api.Entry) bool {
	return equalDeed(a.Deed, b.Deed) && a.IsMap == b.IsMap && equalMap(a.Map, b.Map)
}

// line is a line of a log with the sum that belongs to body.
func line(body string) string { return body + " " + strconv.Itoa(slowSum(body)) + "\n" }

// slowSum adds every byte as often as its position says.
func slowSum(s string) int {
	n := 0
	for i := len(s) - 1; i >= 0; i-- {
		for range i + 1 {
			n += int(s[i])
		}
		for n >= 65521 {
			n -= 65521
		}
	}
	return n
}

// deedCase is a valid transaction without ignored fields, and its text form.
type deedCase struct {
	d api.Deed
	s string
}

func deedCases() []deedCase {
	l := []deedCase{
		{ops(set("a", 1)), "a=1"},
		{ops(set("a", 0)), "a=0"},
		{ops(set("a", -5)), "a=-5"},
		{ops(add("f", 2)), "f+2"},
		{ops(add("f", -2)), "f+-2"},
		{ops(add("f", 0)), "f+0"},
		{ops(cpy("b", "a")), "b<a"},
		{ops(cpy("abcdef", "uvwxyz")), "abcdef<uvwxyz"},
		{ops(need("e", 1)), "e?1"},
		{ops(need("e", -1)), "e?-1"},
		{ops(need("e", 0)), "e?0"},
		{ops(move("c", "d", 7)), "c<d*7"},
		{ops(move("c", "d", 0)), "c<d*0"},
		{ops(set("map", 1)), "map=1"},
		{ops(cpy("map", "m")), "map<m"},
		{ops(set("a", -5), cpy("b", "a"), move("c", "d", 7), need("e", 1), add("f", 2)), "a=-5;b<a;c<d*7;e?1;f+2"},
		{ops(set("a", 1), set("a", 1)), "a=1;a=1"},
		{ops(set("b", 10), set("a", 100)), "b=10;a=100"},
		{times(8, move("a", "b", 1)), "a<b*1;a<b*1;a<b*1;a<b*1;a<b*1;a<b*1;a<b*1;a<b*1"},
	}
	for _, n := range []int{api.MaxValue, api.MaxValue - 1, 999999999, 123456789, 100, 9} {
		s := strconv.Itoa(n)
		l = append(l, deedCase{ops(set("zzzzzz", n)), "zzzzzz=" + s}, deedCase{ops(set("zzzzzz", -n)), "zzzzzz=-" + s},
			deedCase{ops(add("q", n)), "q+" + s}, deedCase{ops(add("q", -n)), "q+-" + s},
			deedCase{ops(need("q", n)), "q?" + s}, deedCase{ops(need("q", -n)), "q?-" + s},
			deedCase{ops(move("q", "p", n)), "q<p*" + s})
	}
	return l
}

func TestP33Deed(t *testing.T) {
	for _, c := range deedCases() {
		if s, e := text.Deed(c.d); s != c.s || e != api.OK {
			t.Errorf("Deed(%v) = %q, %d, want %q", c.d, s, e, c.s)
		}
	}
}

func TestP33DeedWithoutIgnoredFields(t *testing.T) {
	for _, c := range []struct {
		op   api.Op
		want string
	}{
		{api.Op{Kind: api.Set, Key: "a", From: "b", N: 1}, "a=1"},
		{api.Op{Kind: api.Add, Key: "a", From: "b*3;c", N: 1}, "a+1"},
		{api.Op{Kind: api.Need, Key: "a", From: "a", N: 1}, "a?1"},
		{api.Op{Kind: api.Copy, Key: "a", From: "b", N: 1}, "a<b"},
		{api.Op{Kind: api.Copy, Key: "a", From: "b", N: -1}, "a<b"},
		{api.Op{Kind: api.Copy, Key: "a", From: "b", N: math.MinInt}, "a<b"},
	} {
		if s, e := text.Deed(ops(c.op)); s != c.want || e != api.OK {
			t.Errorf("Deed(%v) = %q, %d, want %q", c.op, s, e, c.want)
		}
	}
}

// badDeed is a transaction that is not valid, with the error of deed.Check.
type badDeed struct {
	d    api.Deed
	want api.Errno
}

func badDeeds() []badDeed {
	l := []badDeed{
		{ops(), api.ErrLarge},
		{api.Deed{Ops: []api.Op{}}, api.ErrLarge},
		{times(9, set("a", 1)), api.ErrLarge},
		{times(9, set("A", 1)), api.ErrLarge},
		{times(1000, api.Op{}), api.ErrLarge},
		{ops(api.Op{}), api.ErrForm},
		{ops(cpy("a", "a")), api.ErrForm},
		{ops(move("a", "a", 1)), api.ErrForm},
		{ops(cpy("a", "b*1")), api.ErrForm},
		{ops(move("a", "B", 1)), api.ErrForm},
		{ops(move("a", "b", -1)), api.ErrArg},
		{ops(set("a", 1), set("", 1)), api.ErrForm},
		{ops(set("a", api.MaxValue+1), set("", 1)), api.ErrArg},
		{ops(set("", 1), set("a", api.MaxValue+1)), api.ErrForm},
	}
	for _, kind := range []int{0, 6, -1, 1<<32 + 1, math.MaxInt, math.MinInt} {
		l = append(l, badDeed{ops(api.Op{Kind: kind, Key: "a", From: "b", N: 1}), api.ErrForm})
	}
	for _, key := range []string{"", "A", "aaaaaaa", "a;", "a=", "a b", "a\n", "1", "\xff", "é"} {
		for kind := api.Set; kind <= api.Move; kind++ {
			l = append(l, badDeed{ops(api.Op{Kind: kind, Key: key, From: "b", N: 1}), api.ErrForm})
		}
	}
	for _, n := range []int{api.MaxValue + 1, -api.MaxValue - 1, math.MaxInt, math.MinInt} {
		for _, kind := range []int{api.Set, api.Add, api.Need, api.Move} {
			l = append(l, badDeed{ops(api.Op{Kind: kind, Key: "a", From: "b", N: n}), api.ErrArg})
		}
	}
	return l
}

func TestP33DeedErrors(t *testing.T) {
	for _, c := range badDeeds() {
		if s, e := text.Deed(c.d); s != "" || e != c.want {
			t.Errorf("Deed(%v) = %q, %d, want %d", c.d, s, e, c.want)
		}
	}
}

func TestP34ReadDeed(t *testing.T) {
	for _, c := range deedCases() {
		if d, e := text.ReadDeed(c.s); !equalDeed(d, c.d) || e != api.OK {
			t.Errorf("ReadDeed(%q) = %v, %d, want %v", c.s, d, e, c.d)
		}
	}
}

// noNumbers are strings that are no numbers as the chapter describes them.
func noNumbers() []string {
	return []string{"", "-", "--1", "-0", "-00", "00", "01", "-01", "007", "+1", "+0", "+", " 1", "1 ", "1 2", "1-", "1-1", "1.0", ".5", "1e3", "0x1", "0b1", "1_0", "1,0",
		"a", "1a", "a1", "x", "\x00", "1\x00", "\x001", "\xff", "１", "٣", "1\r", "1\t", "/", "?", "1*", "*1", "=1", "1=", "<1", "1+1",
		"100000000000", "123456789012", "-12345678901", "000000000001", "9223372036854775807", "-9223372036854775808", "9223372036854775808", "18446744073709551617",
		strings.Repeat("0", 11), strings.Repeat("0", 12), strings.Repeat("9", 1000)}
}

// longNumbers are numbers of at most 11 bytes that are no valid values.
func longNumbers() []string {
	return []string{"1000000001", "-1000000001", "2147483648", "-2147483649", "4294967296", "4294967297", "9999999999", "-9999999999", "10000000000", "99999999999", "12345678901"}
}

func TestP34ReadDeedWordErrors(t *testing.T) {
	for _, s := range []string{"", ";", ";;", "a", "a1", "*", "a*", "a*1", "a-1", "a 1", "a:1", "a>b", "a!1", "a,b", "map 1", "\x00", "\xff", "é", " ", "\n",
		"a=1;", ";a=1", "a=1;;b=1", "a=1;b", "b;a=1", "a=1;b=", "a=;b=1", "a=1;b=2;c=x", "a=1,b=2", "a=1 ;b=2", "a=b", "a=b=1", "a==1", "a=+1", "a+=1", "a++1", "a?=1", "a=?1", "a=<1",
		"a=1<b", "a?b<c", "a+b<c*1", "a<b*1*2", "a<b**1", "a<b*", "a<*", "<*", "=", "+", "?", strings.Repeat("a=1;", 9), strings.Repeat(";", 1000)} {
		if d, e := text.ReadDeed(s); !emptyDeed(d) || e != api.ErrWord {
			t.Errorf("ReadDeed(%q) = %v, %d, want ErrWord", s, d, e)
		}
	}
	for _, n := range noNumbers() {
		for _, start := range []string{"a=", "a+", "a?", "a<b*", "c<d*7;a=", "A=", "=", "a<a*"} {
			if d, e := text.ReadDeed(start + n); !emptyDeed(d) || e != api.ErrWord {
				t.Errorf("ReadDeed(%q) = %v, %d, want ErrWord", start+n, d, e)
			}
		}
	}
}

func TestP34ReadDeedCheckErrors(t *testing.T) {
	for _, c := range []struct {
		s    string
		want api.Errno
	}{
		{"=1", api.ErrForm},
		{"+1", api.ErrForm},
		{"?1", api.ErrForm},
		{"<", api.ErrForm},
		{"<a", api.ErrForm},
		{"a<", api.ErrForm},
		{"<a*1", api.ErrForm},
		{"a<*1", api.ErrForm},
		{"<*1", api.ErrForm},
		{"A=1", api.ErrForm},
		{"a =1", api.ErrForm},
		{" a=1", api.ErrForm},
		{"a*=1", api.ErrForm},
		{"a*2=1", api.ErrForm},
		{"a*1<b", api.ErrForm},
		{"aaaaaaa=1", api.ErrForm},
		{"\xff=1", api.ErrForm},
		{"\x00+1", api.ErrForm},
		{"a<a", api.ErrForm},
		{"a<a*1", api.ErrForm},
		{"a<B", api.ErrForm},
		{"a<B*1", api.ErrForm},
		{"a<1", api.ErrForm},
		{"a<b ", api.ErrForm},
		{"a<b=1", api.ErrForm},
		{"a<=1", api.ErrForm},
		{"a<b<c", api.ErrForm},
		{"a<b+1", api.ErrForm},
		{"a<b?1", api.ErrForm},
		{"a<b?*1", api.ErrForm},
		{"a<b\n", api.ErrForm},
		{"a<b*-1", api.ErrArg},
		{"a<b*-1000000000", api.ErrArg},
		{"a<a*-1", api.ErrForm},
		{"A=1000000001", api.ErrForm},
		{"a=1000000001;A=1", api.ErrArg},
		{"A=1;a=1000000001", api.ErrForm},
		{strings.Repeat("a=1;", 8) + "a=1", api.ErrLarge},
		{strings.Repeat("A=1;", 8) + "a=1", api.ErrLarge},
		{strings.Repeat("a<a;", 8) + "<", api.ErrLarge},
		{strings.Repeat("a=1;", 5000) + "a=1", api.ErrLarge},
		// One unreadable operation comes before all that is not valid.
		{"A=1;x", api.ErrWord},
		{"x;A=1", api.ErrWord},
		{"a=1000000001;a=", api.ErrWord},
		{"a<a;b<c*", api.ErrWord},
		{strings.Repeat("a=1;", 9) + "a", api.ErrWord},
		{strings.Repeat("a<a;", 9) + "a=01", api.ErrWord},
	} {
		if d, e := text.ReadDeed(c.s); !emptyDeed(d) || e != c.want {
			t.Errorf("ReadDeed(%q) = %v, %d, want %d", c.s, d, e, c.want)
		}
	}
	for _, n := range longNumbers() {
		for _, start := range []string{"a=", "a+", "a?", "a<b*", "c<d*7;a="} {
			if d, e := text.ReadDeed(start + n); !emptyDeed(d) || e != api.ErrArg {
				t.Errorf("ReadDeed(%q) = %v, %d, want ErrArg", start+n, d, e)
			}
		}
	}
}

// letters returns n cuts: a, b, c and so on.
func letters(n int) []string {
	var l []string
	for i := range n {
		l = append(l, string([]byte{'a' + byte(i)}))
	}
	return l
}

// wide returns a map with n cuts from a on and the owners 0, 1, 2, 3, 0 and so on.
func wide(n int) api.Map {
	m := api.Map{Cuts: letters(n)}
	for i := range n + 1 {
		m.Owners = append(m.Owners, i%4)
	}
	return m
}

// mapCase is a valid map and its text form.
type mapCase struct {
	m api.Map
	s string
}

func mapCases() []mapCase {
	return []mapCase{
		{mapOf(0), "0"},
		{mapOf(1), "1"},
		{mapOf(2), "2"},
		{mapOf(3), "3"},
		{mapOf(0, "m", 1), "0:m:1"},
		{mapOf(1, "m", 0), "1:m:0"},
		{mapOf(3, "zzzzzz", 3), "3:zzzzzz:3"},
		{mapOf(2, "a", 2, "aa", 2), "2:a:2:aa:2"},
		{mapOf(0, "b", 1, "c", 2, "d", 3), "0:b:1:c:2:d:3"},
		{wide(11), "0:a:1:b:2:c:3:d:0:e:1:f:2:g:3:h:0:i:1:j:2:k:3"},
		{wide(12), "0:a:1:b:2:c:3:d:0:e:1:f:2:g:3:h:0:i:1:j:2:k:3:l:0"},
	}
}

func TestP35Map(t *testing.T) {
	for _, c := range mapCases() {
		if s, e := text.Map(c.m); s != c.s || e != api.OK {
			t.Errorf("Map(%v) = %q, %d, want %q", c.m, s, e, c.s)
		}
	}
}

// badMap is a map that is not valid, with the error of shard.Check.
type badMap struct {
	m    api.Map
	want api.Errno
}

func badMaps() []badMap {
	l := []badMap{
		{api.Map{}, api.ErrForm},
		{api.Map{Cuts: []string{}, Owners: []int{}}, api.ErrForm},
		{mapOf(0, 1), api.ErrForm},
		{mapOf(0, "a"), api.ErrForm},
		{api.Map{Cuts: letters(1)}, api.ErrForm},
		{mapOf(0, "a", 1, 2), api.ErrForm},
		{mapOf(0, "b", 1, "a", 2), api.ErrForm},
		{mapOf(0, "b", 1, "b", 2), api.ErrForm},
		{mapOf(4, "b", 1, "a", 2), api.ErrForm},
		{wide(13), api.ErrLarge},
		{api.Map{Cuts: letters(13)}, api.ErrLarge},
	}
	for _, key := range []string{"", "A", "a:", ":", "a b", "aaaaaaa", "\xff", "\n"} {
		l = append(l, badMap{mapOf(0, key, 1), api.ErrForm}, badMap{mapOf(0, "a", 1, key, 2), api.ErrForm})
	}
	for _, n := range []int{-1, 4, 10, 1 << 32, math.MaxInt, math.MinInt} {
		l = append(l, badMap{mapOf(n), api.ErrArg}, badMap{mapOf(n, "a", 1), api.ErrArg}, badMap{mapOf(1, "a", n), api.ErrArg})
	}
	return l
}

func TestP35MapErrors(t *testing.T) {
	for _, c := range badMaps() {
		if s, e := text.Map(c.m); s != "" || e != c.want {
			t.Errorf("Map(%v) = %q, %d, want %d", c.m, s, e, c.want)
		}
	}
}

func TestP36ReadMap(t *testing.T) {
	for _, c := range mapCases() {
		if m, e := text.ReadMap(c.s); !equalMap(m, c.m) || e != api.OK {
			t.Errorf("ReadMap(%q) = %v, %d, want %v", c.s, m, e, c.m)
		}
	}
}

func TestP36ReadMapWordErrors(t *testing.T) {
	for _, s := range []string{"", ":", "::", "x", "m:0", ":m:0", "0:m:", "0::", "0:m:x", "x:m:0", "0:m:1:n:", "0:m:1:n:x", "0:m:x:n:2", "0: m:1 ", "0;m;1", "0:m:1;", "0:m:1\n",
		"map 0", " 0", "0 ", "0,m,1", "0:1:m", strings.Repeat(":", 1000)} {
		if m, e := text.ReadMap(s); !emptyMap(m) || e != api.ErrWord {
			t.Errorf("ReadMap(%q) = %v, %d, want ErrWord", s, m, e)
		}
	}
	for _, n := range noNumbers() {
		for _, s := range []string{n, "0:m:" + n, n + ":m:1", n + ":m", "0:m:" + n + ":n:2", "0:m:1:n:" + n, "0:M:" + n, "4:m:" + n, n + ":m:4"} {
			if m, e := text.ReadMap(s); !emptyMap(m) || e != api.ErrWord {
				t.Errorf("ReadMap(%q) = %v, %d, want ErrWord", s, m, e)
			}
		}
	}
}

func TestP36ReadMapCheckErrors(t *testing.T) {
	long := "0:a:1:b:2:c:3:d:0:e:1:f:2:g:3:h:0:i:1:j:2:k:3:l:0"
	for _, c := range []struct {
		s    string
		want api.Errno
	}{
		{"0:", api.ErrForm},
		{"0:m", api.ErrForm},
		{"0:m:1:", api.ErrForm},
		{"0:m:1:n", api.ErrForm},
		{"0::1", api.ErrForm},
		{"0:M:1", api.ErrForm},
		{"0:1:2", api.ErrForm},
		{"0:m :1", api.ErrForm},
		{"0:aaaaaaa:1", api.ErrForm},
		{"0:\xff:1", api.ErrForm},
		{"0:m:1:m:2", api.ErrForm},
		{"0:m:1:a:2", api.ErrForm},
		{"4:m:1:a:2", api.ErrForm},
		{"4:m", api.ErrForm},
		{"4", api.ErrArg},
		{"-1", api.ErrArg},
		{"0:m:4", api.ErrArg},
		{"4:m:0", api.ErrArg},
		{"0:m:-1:n:2", api.ErrArg},
		{long + ":m", api.ErrLarge},
		{long + ":m:1", api.ErrLarge},
		{long + ":A:4", api.ErrLarge},
		{strings.Repeat("0:A:", 5000) + "4", api.ErrLarge},
		// One unreadable number comes before all that is not valid.
		{long + ":m:", api.ErrWord},
		{long + ":m:1:n:x", api.ErrWord},
		{strings.Repeat("0:A:", 5000) + "x", api.ErrWord},
	} {
		if m, e := text.ReadMap(c.s); !emptyMap(m) || e != c.want {
			t.Errorf("ReadMap(%q) = %v, %d, want %d", c.s, m, e, c.want)
		}
	}
	for _, n := range longNumbers() {
		for _, s := range []string{n, "0:m:" + n, n + ":m:1"} {
			if m, e := text.ReadMap(s); !emptyMap(m) || e != api.ErrArg {
				t.Errorf("ReadMap(%q) = %v, %d, want ErrArg", s, m, e)
			}
		}
	}
}

func TestP37Sum(t *testing.T) {
	for _, c := range []struct {
		s    string
		want int
	}{
		{"", 0},
		{"\x00", 0},
		{"\x00\x00\x00", 0},
		{"\x01", 1},
		{"a", 97},
		{"ab", 97 + 2*98},
		{"ba", 98 + 2*97},
		{"\x00\x01", 2},
		{"\x01\x00", 1},
		{"\x00\x00\x00\xff", 4 * 255},
		{"map 1", 1012},
		{"é", 0xc3 + 2*0xa9},
		{"\xff\xfe", 255 + 2*254},
		{strings.Repeat("\x00", 256) + "\xff", 257*255 - 65521},
		{strings.Repeat("\x00", 65520) + "\x01", 0},
		{strings.Repeat("\x00", 65519) + "\x01", 65520},
		{strings.Repeat("\x00", 65521) + "\x01", 1},
		{strings.Repeat("\x00", 65520) + "\xff\x01", 1},
	} {
		if got := text.Sum(c.s); got != c.want {
			t.Errorf("Sum(%.20q) of %d bytes = %d, want %d", c.s, len(c.s), got, c.want)
		}
	}
}

func TestP37SumOfEveryByteAndPosition(t *testing.T) {
	for b := range 256 {
		for at := range 300 {
			s := strings.Repeat("\x00", at) + string([]byte{byte(b)}) + "\x00"
			if got, want := text.Sum(s), b*(at+1)%65521; got != want {
				t.Fatalf("byte %d at index %d: %d, want %d", b, at, got, want)
			}
		}
	}
}

// Without the modulus, the sum of the longest text has more than 64 bits.
func TestP37SumOfLongText(t *testing.T) {
	for _, n := range []int{4104, 4105, 20000, 70000, 280000000} {
		// 1 + 2 + ... + n, divided by 2 before it is reduced.
		all := n / 2 % 65521 * ((n + 1) % 65521)
		if n%2 == 1 {
			all = n % 65521 * ((n + 1) / 2 % 65521)
		}
		if got, want := text.Sum(strings.Repeat("\xff", n)), all%65521*255%65521; got != want {
			t.Errorf("%d bytes 255: %d, want %d", n, got, want)
		}
	}
}
