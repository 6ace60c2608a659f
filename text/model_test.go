package text_test

import (
	"regexp"
	"slices"
	"strconv"
	"strings"
	"testing"

	"ropery/api"
	"ropery/deed"
	"ropery/shard"
	"ropery/text"
)

// fixed is a sequence of numbers that is the same in every run.
type fixed uint64

func (f *fixed) below(n int) int {
	*f = *f*6364136223846793005 + 1442695040888963407
	return int((uint64(*f) >> 33) % uint64(n))
}

var (
	numberForm = regexp.MustCompile(`^(0|-?[1-9][0-9]{0,10})$`)
	opForm     = regexp.MustCompile(`(?s)^([^=+<?]*)([=+<?])(.*)$`)
	moveForm   = regexp.MustCompile(`(?s)^([^*]*)\*(.*)$`)
	lineForm   = regexp.MustCompile(`^([^\n]*) ([^\n ]*)\n`)
)

// modelNumber reads a number as the chapter describes it.
func modelNumber(s string) (int, bool) {
	if !numberForm.MatchString(s) || len(s) > 11 {
		return 0, false
	}
	n, err := strconv.ParseInt(s, 10, 64)
	return int(n), err == nil
}

func modelOp(s string) (api.Op, bool) {
	words := opForm.FindStringSubmatch(s)
	if words == nil {
		return api.Op{}, false
	}
	op := api.Op{Key: words[1], Kind: map[string]int{"=": api.Set, "+": api.Add, "<": api.Copy, "?": api.Need}[words[2]]}
	amount := words[3]
	if op.Kind == api.Copy {
		move := moveForm.FindStringSubmatch(amount)
		if move == nil {
			op.From = amount
			return op, true
		}
		op.Kind, op.From, amount = api.Move, move[1], move[2]
	}
	n, ok := modelNumber(amount)
	op.N = n
	return op, ok
}

func modelDeed(s string) (api.Deed, api.Errno) {
	var d api.Deed
	for rest, more := s, true; more; {
		var word string
		word, rest, more = strings.Cut(rest, ";")
		op, ok := modelOp(word)
		if !ok {
			return api.Deed{}, api.ErrWord
		}
		d.Ops = append(d.Ops, op)
	}
	if e := deed.Check(d); e != api.OK {
		return api.Deed{}, e
	}
	return d, api.OK
}

func modelMap(s string) (api.Map, api.Errno) {
	var m api.Map
	for rest, more := s, true; more; {
		var word string
		word, rest, more = strings.Cut(rest, ":")
		owner, ok := modelNumber(word)
		if !ok {
			return api.Map{}, api.ErrWord
		}
		m.Owners = append(m.Owners, owner)
		if more {
			word, rest, more = strings.Cut(rest, ":")
			m.Cuts = append(m.Cuts, word)
		}
	}
	if e := shard.Check(m); e != api.OK {
		return api.Map{}, e
	}
	return m, api.OK
}

func modelEntry(s string) (api.Entry, int, api.Errno) {
	if !strings.Contains(s, "\n") {
		return api.Entry{}, 0, api.ErrShort
	}
	words := lineForm.FindStringSubmatch(s)
	if words == nil {
		return api.Entry{}, 0, api.ErrWord
	}
	body := words[1]
	sum, ok := modelNumber(words[2])
	if !ok {
		return api.Entry{}, 0, api.ErrWord
	}
	if sum != slowSum(body) {
		return api.Entry{}, 0, api.ErrSum
	}
	var x api.Entry
	var e api.Errno
	if len(body) >= 4 && body[:4] == "map " {
		x.IsMap = true
		x.Map, e = modelMap(body[4:])
	} else {
		x.Deed, e = modelDeed(body)
	}
	if e != api.OK {
		return api.Entry{}, 0, e
	}
	return x, len(words[0]), api.OK
}

// modelLog reads line by line.
func modelLog(s string) ([]api.Entry, int, api.Errno) {
	if len(s) > 20000 {
		return nil, 0, api.ErrLarge
	}
	var l []api.Entry
	lines := strings.SplitAfter(s, "\n")
	for _, one := range lines[:len(lines)-1] {
		x, _, e := modelEntry(one)
		if e != api.OK {
			return nil, 0, e
		}
		l = append(l, x)
	}
	return l, strings.LastIndex(s, "\n") + 1, api.OK
}

// compareDeed compares ReadDeed with the model, and Deed with the text.
func compareDeed(t *testing.T, s string) api.Errno {
	t.Helper()
	want, f := modelDeed(s)
	d, e := text.ReadDeed(s)
	if !equalDeed(d, want) || e != f {
		t.Fatalf("ReadDeed(%q) = %v, %d, want %v, %d", s, d, e, want, f)
	}
	if back, g := text.Deed(d); e == api.OK && (back != s || g != api.OK) {
		t.Fatalf("Deed(ReadDeed(%q)) = %q, %d", s, back, g)
	}
	return e
}

// compareMap compares ReadMap with the model, and Map with the text.
func compareMap(t *testing.T, s string) api.Errno {
	t.Helper()
	want, f := modelMap(s)
	m, e := text.ReadMap(s)
	if !equalMap(m, want) || e != f {
		t.Fatalf("ReadMap(%q) = %v, %d, want %v, %d", s, m, e, want, f)
	}
	if back, g := text.Map(m); e == api.OK && (back != s || g != api.OK) {
		t.Fatalf("Map(ReadMap(%q)) = %q, %d", s, back, g)
	}
	return e
}

// compareEntry compares ReadEntry with the model, and Entry with the line.
func compareEntry(t *testing.T, s string) api.Errno {
	t.Helper()
	want, k, f := modelEntry(s)
	x, n, e := text.ReadEntry(s)
	if !equalEntry(x, want) || n != k || e != f {
		t.Fatalf("ReadEntry(%q) = %v, %d, %d, want %v, %d, %d", s, x, n, e, want, k, f)
	}
	if back, g := text.Entry(x); e == api.OK && (back != s[:n] || g != api.OK) {
		t.Fatalf("Entry(ReadEntry(%q)) = %q, %d", s, back, g)
	}
	return e
}

// compareLog compares Log with the model, and the entries with the text.
func compareLog(t *testing.T, s string) api.Errno {
	t.Helper()
	want, k, f := modelLog(s)
	l, n, e := text.Log(s)
	if !equalEntries(l, want) || n != k || e != f {
		t.Fatalf("Log(%q) = %v, %d, %d, want %v, %d, %d", s, l, n, e, want, k, f)
	}
	var back strings.Builder
	for _, x := range l {
		one, _ := text.Entry(x)
		back.WriteString(one)
	}
	if back.String() != s[:n] {
		t.Fatalf("the entries of %q have the text form %q", s[:n], back.String())
	}
	return e
}

// allOver calls do for all strings of at most n bytes from letters.
func allOver(letters string, n int, do func(s string)) {
	l := []string{""}
	for range n + 1 {
		var next []string
		for _, s := range l {
			do(s)
			for i := range len(letters) {
				next = append(next, s+letters[i:i+1])
			}
		}
		l = next
	}
}

// seen fails the test if one of the results never came.
func seen(t *testing.T, got map[api.Errno]int, want ...api.Errno) {
	t.Helper()
	for _, e := range want {
		if got[e] == 0 {
			t.Errorf("no text with the result %d", e)
		}
	}
}

func TestP34ShortTexts(t *testing.T) {
	got := map[api.Errno]int{}
	do := func(s string) { got[compareDeed(t, s)]++ }
	allOver("ab<*1-;", 6, do)
	allOver("aA=+<?*;01-", 5, do)
	allOver("a=0123456789-+ _", 4, do)
	seen(t, got, api.OK, api.ErrWord, api.ErrForm, api.ErrArg)
}

func TestP36ShortTexts(t *testing.T) {
	got := map[api.Errno]int{}
	do := func(s string) { got[compareMap(t, s)]++ }
	allOver("ab:01-", 6, do)
	allOver(":0a", 9, do)
	allOver("01234-+: aA;", 4, do)
	seen(t, got, api.OK, api.ErrWord, api.ErrForm, api.ErrArg)
}

func TestP34EveryByteInEveryPlace(t *testing.T) {
	for b := range 256 {
		c := string([]byte{byte(b)})
		for _, s := range []string{"a=1", "ab<cd*12;e?-3"} {
			for i := range len(s) {
				compareDeed(t, s[:i]+c+s[i:])
				compareDeed(t, s[:i]+c+s[i+1:])
			}
		}
		for _, s := range []string{"1", "0:ab:3:c:1"} {
			for i := range len(s) {
				compareMap(t, s[:i]+c+s[i:])
				compareMap(t, s[:i]+c+s[i+1:])
			}
		}
	}
}

func TestP37SumModel(t *testing.T) {
	f := fixed(37)
	for range 300 {
		b := make([]byte, f.below(2000))
		for i := range b {
			b[i] = byte(f.below(256))
		}
		if got, want := text.Sum(string(b)), slowSum(string(b)); got != want {
			t.Fatalf("Sum(%q) = %d, want %d", b, got, want)
		}
	}
}

// key is a valid key of at most six letters.
func (f *fixed) key() string {
	b := make([]byte, 1+f.below(6))
	for i := range b {
		b[i] = 'a' + byte(f.below(26))
	}
	return string(b)
}

// value is a valid value with one to ten digits.
func (f *fixed) value() int {
	below := 2
	for range f.below(10) {
		below *= 10
	}
	n := min(f.below(below), api.MaxValue)
	if f.below(2) == 0 {
		return -n
	}
	return n
}

// op is a valid operation without ignored fields.
func (f *fixed) op() api.Op {
	op := api.Op{Kind: 1 + f.below(5), Key: f.key(), N: f.value()}
	if op.Kind == api.Copy {
		op.N = 0
	}
	if op.Kind == api.Move {
		op.N = max(op.N, -op.N)
	}
	if op.Kind == api.Copy || op.Kind == api.Move {
		for op.From = f.key(); op.From == op.Key; {
			op.From = f.key()
		}
	}
	return op
}

// entry is a valid entry with the other field zero.
func (f *fixed) entry() api.Entry {
	var x api.Entry
	if f.below(3) > 0 {
		for range 1 + f.below(8) {
			x.Deed.Ops = append(x.Deed.Ops, f.op())
		}
		return x
	}
	x.IsMap = true
	for range f.below(13) {
		x.Map.Cuts = append(x.Map.Cuts, f.key())
	}
	slices.Sort(x.Map.Cuts)
	x.Map.Cuts = slices.Compact(x.Map.Cuts)
	for range len(x.Map.Cuts) + 1 {
		x.Map.Owners = append(x.Map.Owners, f.below(4))
	}
	return x
}

// modelText writes an entry without its sum.
func modelText(x api.Entry) string {
	if x.IsMap {
		s := "map"
		for i, owner := range x.Map.Owners {
			if i == 0 {
				s += " " + strconv.Itoa(owner)
			} else {
				s += ":" + x.Map.Cuts[i-1] + ":" + strconv.Itoa(owner)
			}
		}
		return s
	}
	s := ""
	for _, op := range x.Deed.Ops {
		s += op.Key + []string{"=", "+", "<", "?", "<"}[op.Kind-1] + op.From
		if op.Kind == api.Move {
			s += "*"
		}
		if op.Kind != api.Copy {
			s += strconv.FormatInt(int64(op.N), 10)
		}
		s += ";"
	}
	return s[:len(s)-1]
}

func TestP38EntriesBecomeTextAndBack(t *testing.T) {
	f := fixed(38)
	for range 3000 {
		x := f.entry()
		s, e := text.Entry(x)
		if want := line(modelText(x)); s != want || e != api.OK {
			t.Fatalf("Entry(%v) = %q, %d, want %q", x, s, e, want)
		}
		if y, n, e := text.ReadEntry(s); !equalEntry(x, y) || n != len(s) || e != api.OK {
			t.Fatalf("ReadEntry(%q) = %v, %d, %d, want %v", s, y, n, e, x)
		}
	}
}

// changed returns s with a few bytes inserted, replaced or removed.
func (f *fixed) changed(s string) string {
	const letters = "az=+<?*;:0123456789- map\nA\xff"
	b := []byte(s)
	for range f.below(4) {
		at := f.below(len(b) + 1)
		c := letters[f.below(len(letters))]
		switch {
		case f.below(3) == 0 || at == len(b):
			b = slices.Insert(b, at, c)
		case f.below(2) == 0:
			b[at] = c
		default:
			b = slices.Delete(b, at, at+1)
		}
	}
	return string(b)
}

func TestP39ChangedLines(t *testing.T) {
	f := fixed(39)
	got := map[api.Errno]int{}
	for range 20000 {
		body := modelText(f.entry())
		// Two of them together exceed the limits often.
		switch f.below(6) {
		case 0:
			body += ";" + modelText(f.entry())
		case 1:
			body += ":zz:" + strings.TrimPrefix(modelText(f.entry()), "map ")
		}
		body = f.changed(body)
		got[compareEntry(t, line(body))]++
		got[compareEntry(t, f.changed(line(body)))]++
		compareDeed(t, body)
		compareMap(t, strings.TrimPrefix(body, "map "))
	}
	seen(t, got, api.OK, api.ErrShort, api.ErrWord, api.ErrSum, api.ErrForm, api.ErrArg, api.ErrLarge)
}

func TestP40ChangedLogs(t *testing.T) {
	f := fixed(40)
	got := map[api.Errno]int{}
	for range 1000 {
		var s strings.Builder
		for range f.below(20) {
			body := modelText(f.entry())
			if f.below(50) == 0 {
				body = f.changed(body)
			}
			s.WriteString(line(body))
		}
		got[compareLog(t, s.String())]++
		got[compareLog(t, f.changed(s.String()))]++
		got[compareLog(t, s.String()[:f.below(s.Len()+1)])]++
	}
	seen(t, got, api.OK, api.ErrWord, api.ErrSum)
}

// A log that is cut off has the entries of its whole lines.
func TestP40LogCutOffAnywhere(t *testing.T) {
	f := fixed(41)
	var all []api.Entry
	var ends []int
	s := ""
	for range 20 {
		x := f.entry()
		all = append(all, x)
		s += line(modelText(x))
		ends = append(ends, len(s))
	}
	for i := range len(s) + 1 {
		whole, end := 0, 0
		for whole < len(ends) && ends[whole] <= i {
			end = ends[whole]
			whole++
		}
		if l, n, e := text.Log(s[:i]); !equalEntries(l, all[:whole]) || n != end || e != api.OK {
			t.Fatalf("Log of the first %d bytes: %d entries, %d, %d, want %d entries, %d", i, len(l), n, e, whole, end)
		}
	}
}
