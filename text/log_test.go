package text_test

import (
	"slices"
	"strconv"
	"strings"
	"testing"

	"ropery/api"
	"ropery/text"
)

// entryCase is a valid entry with the other field zero, and its text form
// without the sum.
type entryCase struct {
	x    api.Entry
	body string
}

func entryCases() []entryCase {
	var l []entryCase
	for _, c := range deedCases() {
		l = append(l, entryCase{api.Entry{Deed: c.d}, c.s})
	}
	for _, c := range mapCases() {
		l = append(l, entryCase{api.Entry{IsMap: true, Map: c.m}, "map " + c.s})
	}
	return l
}

func TestP38Entry(t *testing.T) {
	for _, c := range []struct {
		x    api.Entry
		want string
	}{
		{mapEntry(1), "map 1 1012\n"},
		{mapEntry(0), "map 0 1007\n"},
		{mapEntry(0, "m", 1), "map 0:m:1 3023\n"},
		{deedEntry(set("a", 1)), "a=1 366\n"},
		{deedEntry(set("map", 1)), "map=1 1128\n"},
		{deedEntry(move("c", "d", 7)), "c<d*7 962\n"},
	} {
		if s, e := text.Entry(c.x); s != c.want || e != api.OK {
			t.Errorf("Entry(%v) = %q, %d, want %q", c.x, s, e, c.want)
		}
	}
	for _, c := range entryCases() {
		if s, e := text.Entry(c.x); s != line(c.body) || e != api.OK {
			t.Errorf("Entry(%v) = %q, %d, want %q", c.x, s, e, line(c.body))
		}
	}
}

// The longest entry has a sum beyond the modulus.
func TestP38EntryWithReducedSum(t *testing.T) {
	x := api.Entry{Deed: times(8, move("zzzzzz", "yyyyyy", api.MaxValue))}
	body := strings.TrimSuffix(strings.Repeat("zzzzzz<yyyyyy*1000000000;", 8), ";")
	plain := 0
	for i := range len(body) {
		plain += int(body[i]) * (i + 1)
	}
	if want := body + " " + strconv.Itoa(plain%65521) + "\n"; plain <= 65521 {
		t.Error("the sum is too small for this test:", plain)
	} else if s, e := text.Entry(x); s != want || e != api.OK {
		t.Errorf("Entry = %q, %d, want %q", s, e, want)
	}
}

func TestP38EntryIgnoresTheOtherField(t *testing.T) {
	for _, c := range entryCases() {
		for _, d := range badDeeds() {
			if x := (api.Entry{IsMap: true, Map: c.x.Map, Deed: d.d}); c.x.IsMap {
				if s, e := text.Entry(x); s != line(c.body) || e != api.OK {
					t.Errorf("Entry(%v) = %q, %d, want %q", x, s, e, line(c.body))
				}
			}
		}
		for _, m := range badMaps() {
			if x := (api.Entry{Deed: c.x.Deed, Map: m.m}); !c.x.IsMap {
				if s, e := text.Entry(x); s != line(c.body) || e != api.OK {
					t.Errorf("Entry(%v) = %q, %d, want %q", x, s, e, line(c.body))
				}
			}
		}
	}
}

func TestP38EntryErrors(t *testing.T) {
	for _, c := range badDeeds() {
		for _, m := range []api.Map{{}, mapOf(0), mapOf(4)} {
			if s, e := text.Entry(api.Entry{Deed: c.d, Map: m}); s != "" || e != c.want {
				t.Errorf("Entry of %v = %q, %d, want %d", c.d, s, e, c.want)
			}
		}
	}
	for _, c := range badMaps() {
		for _, d := range []api.Deed{{}, ops(set("a", 1)), ops(set("a", api.MaxValue+1))} {
			if s, e := text.Entry(api.Entry{IsMap: true, Deed: d, Map: c.m}); s != "" || e != c.want {
				t.Errorf("Entry of %v = %q, %d, want %d", c.m, s, e, c.want)
			}
		}
	}
}

func TestP39ReadEntry(t *testing.T) {
	for _, c := range entryCases() {
		s := line(c.body)
		for _, more := range []string{"", "\n", "\n\n", " ", "more", "more\n", "a=1", s, "map 1 1012\n", "\xff\x00 1\n"} {
			if x, n, e := text.ReadEntry(s + more); !equalEntry(x, c.x) || n != len(s) || e != api.OK {
				t.Errorf("ReadEntry(%q) = %v, %d, %d, want %v, %d", s+more, x, n, e, c.x, len(s))
			}
		}
	}
}

func TestP39ReadEntryExamples(t *testing.T) {
	for _, c := range []struct {
		s    string
		want api.Entry
		n    int
	}{
		{"map 1 1012\nmore", mapEntry(1), 11},
		{"map 0:m:1 3023\n", mapEntry(0, "m", 1), 15},
		{"a=1 366\n", deedEntry(set("a", 1)), 8},
		{"map=1 1128\n", deedEntry(set("map", 1)), 11},
	} {
		if x, n, e := text.ReadEntry(c.s); !equalEntry(x, c.want) || n != c.n || e != api.OK {
			t.Errorf("ReadEntry(%q) = %v, %d, %d, want %v, %d", c.s, x, n, e, c.want, c.n)
		}
	}
}

func wantEntryError(t *testing.T, s string, want api.Errno) {
	t.Helper()
	if x, n, e := text.ReadEntry(s); !emptyEntry(x) || n != 0 || e != want {
		t.Errorf("ReadEntry(%.200q) = %v, %d, %d, want %d", s, x, n, e, want)
	}
}

func TestP39ReadEntryWithoutNewline(t *testing.T) {
	for _, s := range []string{"", " ", "a", "a=1", "a=1 ", "a=1 366", "a=1 365", "a=1 x", "map 1 1012", "map 1 1012\r", "map 1 1012\x00", "x y", "\xff", "\u0085", "\u2028", strings.Repeat("a", 30000)} {
		wantEntryError(t, s, api.ErrShort)
	}
	for _, c := range entryCases() {
		s := line(c.body)
		for i := range s {
			wantEntryError(t, s[:i], api.ErrShort)
		}
	}
}

func TestP39ReadEntryWordErrorsOfTheLine(t *testing.T) {
	for _, s := range []string{"\n", "\n\n", "map1\n", "a=1\n", "a=1\t366\n", "a=1\n366\n", "\nmap 1 1012\n", " \n", "  \n", "a=1 \n", "a=1 366 \n", "map 1\r\n", "map 1 1012\r\n", "map 1 1012 x\n", "a=1 366x\n",
		"map \n", "x\n y 1\n", "\u00a01\n", "a=1 \n366\n"} {
		wantEntryError(t, s, api.ErrWord)
	}
	// Also if what precedes the space is not valid.
	for _, n := range noNumbers() {
		if strings.Contains(n, " ") {
			continue
		}
		for _, body := range []string{"a=1", "map 1", "", "map", "A=1", "map 4", "x", "a=1 366", strings.Repeat("a=1;", 8) + "a=1"} {
			wantEntryError(t, body+" "+n+"\n", api.ErrWord)
		}
	}
	for _, c := range entryCases() {
		sum := strconv.Itoa(text.Sum(c.body))
		for _, s := range []string{"0" + sum, "+" + sum, sum + " ", sum + ".", " " + sum + " ", sum + "\t", strings.Repeat("0", 12-len(sum)) + sum} {
			wantEntryError(t, c.body+" "+s+"\n", api.ErrWord)
		}
	}
}

func TestP39ReadEntrySumErrors(t *testing.T) {
	for _, c := range entryCases() {
		sum := text.Sum(c.body)
		for _, n := range []int{sum + 1, sum - 1, -sum, sum + 65521, sum - 65521, sum + 65536, sum + 1<<32, 10 * sum, sum/10 - 1} {
			wantEntryError(t, c.body+" "+strconv.Itoa(n)+"\n", api.ErrSum)
		}
		// The sum that belongs to the text without the space is not that of the text with it.
		wantEntryError(t, c.body+"  "+strconv.Itoa(sum)+"\n", api.ErrSum)
		// The last number is the sum, of all that precedes it.
		wantEntryError(t, c.body+" "+strconv.Itoa(sum)+" "+strconv.Itoa(sum)+"\n", api.ErrSum)
		// The rest of s does not belong to the sum.
		all := c.body + " 0\nmore"
		wantEntryError(t, c.body+" "+strconv.Itoa(text.Sum(all))+"\nmore", api.ErrSum)
	}
	// The sum is checked before what precedes it.
	for _, body := range []string{"x", "A=1", "map 4", "map x", "map ", "map", "a=1000000001", strings.Repeat("a=1;", 8) + "a=1"} {
		wantEntryError(t, body+" "+strconv.Itoa(text.Sum(body)+1)+"\n", api.ErrSum)
	}
	wantEntryError(t, " 1\n", api.ErrSum)
	wantEntryError(t, "map 1012\n", api.ErrSum)
}

func TestP39ReadEntryNoticesEveryChangedByte(t *testing.T) {
	for _, c := range entryCases() {
		s := line(c.body)
		for i := range len(c.body) {
			changed := []byte(s)
			changed[i]++
			wantEntryError(t, string(changed), api.ErrSum)
		}
	}
}

func TestP39ReadEntryErrorsOfWhatPrecedes(t *testing.T) {
	for _, c := range []struct {
		body string
		want api.Errno
	}{
		{"", api.ErrWord},
		{" ", api.ErrWord},
		{"x", api.ErrWord},
		{"a=", api.ErrWord},
		{"a=01", api.ErrWord},
		{"a=1;", api.ErrWord},
		{"a=1 366", api.ErrWord},
		{"a=1 ", api.ErrWord},
		{"a<b ", api.ErrForm},
		{" a=1", api.ErrForm},
		{"A=1", api.ErrForm},
		{"a<a", api.ErrForm},
		{"a<b*-1", api.ErrArg},
		{"a=1000000001", api.ErrArg},
		{strings.Repeat("a=1;", 8) + "a=1", api.ErrLarge},
		{"map", api.ErrWord},
		{"map ", api.ErrWord},
		{"map  1", api.ErrWord},
		{"map 1 ", api.ErrWord},
		{"map x", api.ErrWord},
		{"map a=1", api.ErrWord},
		{"map map 1", api.ErrWord},
		{"map 0:m", api.ErrForm},
		{"map 0:m:1:a:2", api.ErrForm},
		{"map 0:m :1", api.ErrForm},
		{"map 4", api.ErrArg},
		{"map 0:a:1:b:2:c:3:d:0:e:1:f:2:g:3:h:0:i:1:j:2:k:3:l:0:m:1", api.ErrLarge},
		// Without the word map and one space it is no map.
		{"map1", api.ErrWord},
		{"map\t1", api.ErrWord},
		{"Map 1", api.ErrWord},
		{" map 1", api.ErrWord},
		{"xmap 1", api.ErrWord},
		{"0:m:1", api.ErrWord},
		{"1", api.ErrWord},
		{"map =1", api.ErrWord},
		{"maps =1", api.ErrForm},
		{"map:<a", api.ErrForm},
	} {
		wantEntryError(t, line(c.body), c.want)
		wantEntryError(t, line(c.body)+line("a=1"), c.want)
	}
}

func TestP40Log(t *testing.T) {
	var all []api.Entry
	s := ""
	for _, c := range entryCases() {
		for _, rest := range []string{"", " ", "a", "a=1", "a=1 366", "a=1 367", "map 1 1012", "x y z", "\xff", strings.Repeat("x", 1000)} {
			l, n, e := text.Log(s + rest)
			if !equalEntries(l, all) || n != len(s) || e != api.OK {
				t.Errorf("Log(%q) = %v, %d, %d, want %v, %d", s+rest, l, n, e, all, len(s))
			}
		}
		all = append(all, c.x)
		s += line(c.body)
	}
}

func TestP40LogErrors(t *testing.T) {
	good := line("a=1") + line("map 0:m:1")
	for _, c := range []struct {
		s    string
		want api.Errno
	}{
		{"\n", api.ErrWord},
		{"x\n", api.ErrWord},
		{"a=1 x\n", api.ErrWord},
		{"a=1 367\n", api.ErrSum},
		{line("x"), api.ErrWord},
		{line("A=1"), api.ErrForm},
		{line("map 0:m"), api.ErrForm},
		{line("map 4"), api.ErrArg},
		{line("a<b*-1"), api.ErrArg},
		{line(strings.Repeat("a=1;", 8) + "a=1"), api.ErrLarge},
	} {
		for _, s := range []string{c.s, good + c.s, c.s + good, good + c.s + good, c.s + "cut", good + c.s + "cut"} {
			if l, n, e := text.Log(s); len(l) != 0 || n != 0 || e != c.want {
				t.Errorf("Log(%q) = %v, %d, %d, want %d", s, l, n, e, c.want)
			}
		}
		// Of two errors, the first one counts.
		for _, second := range []string{"x\n", "a=1 1\n", line("A=1"), line("map 4")} {
			if l, n, e := text.Log(good + c.s + second); len(l) != 0 || n != 0 || e != c.want {
				t.Errorf("Log(%q) = %v, %d, %d, want %d", good+c.s+second, l, n, e, c.want)
			}
		}
	}
}

func TestP40LogLimit(t *testing.T) {
	one := line("a=1")
	full := strings.Repeat(one, 20000/len(one))
	if len(full) != 20000 {
		t.Fatal("the lines do not fill the limit:", len(full))
	}
	want := slices.Repeat([]api.Entry{deedEntry(set("a", 1))}, len(full)/len(one))
	for _, s := range []string{full, full[:len(full)-len(one)], full[:len(full)-1], full[:len(full)-len(one)+1]} {
		k := len(s) / len(one)
		if l, n, e := text.Log(s); !equalEntries(l, want[:k]) || n != k*len(one) || e != api.OK {
			t.Errorf("%d bytes: %d entries, %d, %d, want %d entries", len(s), len(l), n, e, k)
		}
	}
	// Also if the part within the limit is not valid.
	for _, s := range []string{full + "a", full + one, full + "\n", "x\n" + full, strings.Repeat("\n", 20001), strings.Repeat("x", 20001), strings.Repeat("a=1 1\n", 4000)} {
		if l, n, e := text.Log(s); len(l) != 0 || n != 0 || e != api.ErrLarge {
			t.Errorf("%d bytes: %d entries, %d, %d, want ErrLarge", len(s), len(l), n, e)
		}
	}
	for _, s := range []string{strings.Repeat("x", 20000), strings.Repeat(" ", 20000)} {
		if l, n, e := text.Log(s); len(l) != 0 || n != 0 || e != api.OK {
			t.Errorf("20000 bytes without newline: %d entries, %d, %d, want none", len(l), n, e)
		}
	}
	if l, n, e := text.Log(strings.Repeat("\n", 20000)); len(l) != 0 || n != 0 || e != api.ErrWord {
		t.Errorf("20000 newlines: %d entries, %d, %d, want ErrWord", len(l), n, e)
	}
}
