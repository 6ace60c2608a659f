package desk_test

import (
	"strconv"
	"strings"
	"testing"

	"ropery/desk"
)

// talk runs a script and compares the replies. It gets lines and their replies
// in turn; an empty reply stands for none.
func talk(t *testing.T, turns ...string) {
	t.Helper()
	script, want := "", ""
	for i := 0; i < len(turns); i += 2 {
		script += turns[i] + "\n"
		if turns[i+1] != "" {
			want += turns[i+1] + "\n"
		}
	}
	got := desk.Run(script)
	if got == want {
		return
	}
	replies := strings.Split(got, "\n")
	for i := 0; i < len(turns); i += 2 {
		if turns[i+1] == "" {
			continue
		}
		if replies[0] != turns[i+1] {
			t.Errorf("%q: the reply to line %d, %q, is %q, want %q", brief(script), i/2, brief(turns[i]), brief(replies[0]), brief(turns[i+1]))
			return
		}
		replies = append(replies[1:], "")
	}
	t.Errorf("%q: the replies are %q, want %q", brief(script), brief(got), brief(want))
}

// brief returns a text, or the beginning of one that is too long to be shown.
func brief(s string) string {
	if len(s) > 3000 {
		return s[:3000] + ".."
	}
	return s
}

// each runs every line as a script of its own.
func each(t *testing.T, turns ...string) {
	t.Helper()
	for i := 0; i < len(turns); i += 2 {
		talk(t, turns[i], turns[i+1])
	}
}

// fails runs every line as a script of its own, and as part of one script,
// and wants the same error of each.
func fails(t *testing.T, want string, lines ...string) {
	t.Helper()
	var turns []string
	for _, line := range lines {
		turns = append(turns, line, "error "+want)
	}
	each(t, turns...)
	talk(t, turns...)
}

// times returns n equal turns.
func times(n int, line, reply string) []string {
	var turns []string
	for range n {
		turns = append(turns, line, reply)
	}
	return turns
}

// join returns the turns of several lists, one after another.
func join(lists ...[]string) []string {
	var turns []string
	for _, l := range lists {
		turns = append(turns, l...)
	}
	return turns
}

// sets returns an add of a transaction that sets as many keys as it can.
func sets(first byte) string {
	var ops []string
	for i := range byte(8) {
		ops = append(ops, string([]byte{first, 'a' + i})+"=-1000000000")
	}
	return "add 0 " + strings.Join(ops, ";")
}

func TestP50Example(t *testing.T) {
	if got := desk.Run("clash a=1 b<a"); got != "ok yes\n" {
		t.Errorf("the reply is %q", got)
	}
}

func TestP50EmptyScript(t *testing.T) {
	if got := desk.Run(""); got != "" {
		t.Errorf("the replies to nothing are %q", got)
	}
}

func TestP50Lines(t *testing.T) {
	for _, x := range []struct{ script, want string }{
		{"\n", ""},
		{"\n\n\n", ""},
		{"waits", "ok 0 1\n"},
		{"waits\n", "ok 0 1\n"},
		{"waits\n\n", "ok 0 1\n"},
		{"\nwaits", "ok 0 1\n"},
		{"\n\nwaits\n\n\nclose 0", "ok 0 1\nok 1\n"},
		{"waits\nwaits", "ok 0 1\nok 0 1\n"},
		{"waits\nwaits\n", "ok 0 1\nok 0 1\n"},
		{"close\n0", "error 9\nerror 9\n"},
		{"close 0\n#", "ok 1\n"},
		{"close 0\n ", "ok 1\n"},
		{"close 0\nx", "ok 1\nerror 9\n"},
		{"x\nclose 0", "error 9\nok 1\n"},
	} {
		if got := desk.Run(x.script); got != x.want {
			t.Errorf("Run(%q) = %q, want %q", x.script, got, x.want)
		}
	}
}

func TestP50Words(t *testing.T) {
	each(t,
		"close 0", "ok 1",
		" close 0", "ok 1",
		"close 0 ", "ok 1",
		"   close     0   ", "ok 1",
		"clash  a=1   b<a  ", "ok yes",
		"close0", "error 9",
		"clos e 0", "error 9",
	)
}

// Only the space separates words, and only the newline separates lines.
func TestP50OtherBytesBelongToWords(t *testing.T) {
	for _, b := range []string{"\t", "\r", "\v", "\f", "\x00", "\x1f", "!", "\x7f", "\x80", "\x85", "\xa0", "\xff", "\xc0\xa0", "\u0085", "\u00a0", "\u2003", "\u2028", "\u3000", "\ufeff"} {
		fails(t, "9", b, b+"waits", "waits"+b, "waits "+b, b+" waits", "close"+b+"0", "close 0"+b, "close "+b+"0", "close 0 "+b, "#"+b, b+"#", "waits"+b+"waits")
		talk(t, "find 0:m:1 a"+b, "error 3", "plain 0"+b, "error 9", "clash a=1 b<a"+b, "error 3", "clash a=1 a=1"+b, "error 9")
	}
}

func TestP50LinesWithoutReply(t *testing.T) {
	for _, line := range []string{"", " ", "    ", "#", "# ", " #", "   #   ", "# x", "#  close 0", "# # #", "# \x00\t\xff", "# clash a=1 b<a"} {
		talk(t, line, "", "close 0", "ok 1", line, "", line, "", "close 0", "ok 2", line, "")
		if got := desk.Run(line); got != "" {
			t.Errorf("the reply to %q is %q", line, got)
		}
	}
	fails(t, "9", "#x", "##", "#close 0", "x #", "waits #", "close 0 #", "close # 0")
}

func TestP50ScriptTooLong(t *testing.T) {
	const most = 65536
	for _, x := range []struct {
		n    int
		want string
	}{
		{most - 1, "ok 0 1\n"},
		{most, "ok 0 1\n"},
		{most + 1, "error 2\n"},
		{most + 2, "error 2\n"},
		{2 * most, "error 2\n"},
		{1 << 22, "error 2\n"},
	} {
		for _, start := range []string{"waits", "waits\n", "waits\n#", "waits\n#\n", "#\nwaits\n\n"} {
			script := start + strings.Repeat(" ", x.n-len(start))
			if got := desk.Run(script); got != x.want {
				t.Errorf("the replies to %q and %d bytes are %q, want %q", start, x.n, got, x.want)
			}
			script = strings.Repeat(" ", x.n-len("waits\n")) + "waits\n"
			if got := desk.Run(script); got != x.want {
				t.Errorf("the replies to %d bytes that end with waits are %q, want %q", x.n, got, x.want)
			}
		}
	}
}

// Characters of more than one byte count as bytes.
func TestP50LengthInBytes(t *testing.T) {
	if got := desk.Run("# " + strings.Repeat("\u00fc", 32767)); got != "" {
		t.Errorf("the replies to 65536 bytes are %q", got)
	}
	if got := desk.Run("#  " + strings.Repeat("\u00fc", 32767)); got != "error 2\n" {
		t.Errorf("the replies to 65537 bytes are %q", got)
	}
}

func TestP50TooManyLines(t *testing.T) {
	for _, line := range []string{"", " ", "#", "# x"} {
		for _, x := range []struct {
			n    int
			last string
			want string
		}{
			{198, "waits\n", "ok 0 1\n"},
			{199, "waits", "ok 0 1\n"},
			{199, "waits\n", "ok 0 1\n"},
			{199, "waits\n\n", "error 2\n"},
			{199, "waits\n ", "error 2\n"},
			{199, "waits\n#", "error 2\n"},
			{199, "\n", ""},
			{200, "", ""},
			{200, "waits", "error 2\n"},
			{200, "waits\n", "error 2\n"},
			{200, "\n", "error 2\n"},
			{200, " ", "error 2\n"},
			{201, "", "error 2\n"},
			{300, "waits\n", "error 2\n"},
			{65536, "", "error 2\n"},
		} {
			script := strings.Repeat(line+"\n", x.n) + x.last
			if got := desk.Run(script); got != x.want {
				t.Errorf("the replies to %d lines %q and %q are %q, want %q", x.n, line, x.last, got, x.want)
			}
		}
	}
}

func TestP50AllLinesHaveReplies(t *testing.T) {
	for _, line := range []string{"x", "plain 0", "find 0:m:1 z"} {
		want := strings.Repeat(desk.Run(line), 200)
		if got := desk.Run(strings.Repeat(line+"\n", 200)); got != want {
			t.Errorf("the replies to 200 lines %q are %q", line, got)
		}
		if got := desk.Run(strings.Repeat(line+"\n", 201)); got != "error 2\n" {
			t.Errorf("the replies to 201 lines %q are %q", line, got)
		}
	}
}

// A script that is too long changes nothing and has no other reply, even if a
// line of it would have another error.
func TestP50TooLongHasOneReply(t *testing.T) {
	for _, script := range []string{
		strings.Repeat("close 0\n", 201),
		strings.Repeat("x\n", 201),
		strings.Repeat("x", 65537),
		"close 0\n" + strings.Repeat("x", 65537),
		strings.Repeat("close 0"+strings.Repeat(" ", 400)+"\n", 201),
	} {
		if got := desk.Run(script); got != "error 2\n" {
			t.Errorf("the replies to %d bytes are %q", len(script), got)
		}
	}
}

func TestP50UnknownCommands(t *testing.T) {
	fails(t, "9",
		"none", "Clash a=1 b<a", "CLASH a=1 b<a", "clas a=1 b<a", "clashh a=1 b<a", "clash\x00 a=1 b<a",
		"a=1", "0", "0:m:1", "-", ":", ";", "ok", "error 9", "help", "run", "done 0", "log", "rounds", "cut 0 m", "give 0 0 1", "put a 1",
		"waitss", "wait", "steps 0", "Step 0", "allo 0", "parts 0 0", "takes 0 1", "maps 0 0", "adds 0 a=1", "closed 0", "finds 0 a", "plains 0", "plans a=1",
		"clash,a=1,b<a", strings.Repeat("x", 6000),
	)
}

// Every command with a word less than it needs.
func TestP50MissingWords(t *testing.T) {
	fails(t, "9",
		"clash", "clash a=1",
		"find", "find 0:m:1",
		"plain",
		"plan",
		"add", "add 0",
		"map", "map 0",
		"close",
		"step",
		"all",
		"part", "part 0",
		"take", "take 0",
	)
}

// Every command with a word more than it takes. None of them has an effect.
func TestP50TooManyWords(t *testing.T) {
	for _, more := range []string{"x", "0", "a=1", "0:m:1", "#", "waits", "x x x"} {
		fails(t, "9",
			"clash a=1 b<a "+more,
			"find 0:m:1 a "+more,
			"plain 0:m:1 "+more,
			"plan a=1 "+more,
			"add 0 a=1 "+more,
			"map 0 0:m:1 "+more,
			"close 0 "+more,
			"waits "+more,
			"step 0 "+more,
			"all 0 "+more,
			"part 0 0 "+more,
			"take 0 1 "+more,
		)
	}
	talk(t,
		"add 0 a=1 x", "error 9", "map 0 1 x", "error 9", "close 0 x", "error 9", "plan a=1 x", "error 9",
		"plan a=1", "ok 0", "close 0", "ok 1", "close 1", "ok 1", "step 0", "error 6",
		"add 1 a=1", "ok", "close 0", "ok 2", "close 1", "ok 2", "step 0 x", "error 9", "all 0", "ok",
		"step 1", "ok yes", "take 0 1 x", "error 9", "all 0", "ok", "step 0", "ok yes",
	)
}

func TestP50TransactionsWithErrors(t *testing.T) {
	const most = "a=1;a=2;a=3;a=4;a=5;a=6;a=7;a=8"
	for _, x := range []struct{ word, want string }{
		{"a", "error 9"}, {"a=", "error 9"}, {"a=x", "error 9"}, {"a=01", "error 9"}, {"a=-0", "error 9"},
		{"a+", "error 9"}, {"a?", "error 9"}, {"a<b*", "error 9"}, {"a<b*x", "error 9"}, {";", "error 9"}, {"a=1;", "error 9"},
		{"a=100000000000", "error 9"}, {"a-1", "error 9"}, {"0:m:1", "error 9"}, {"0", "error 9"},
		{"=1", "error 3"}, {"A=1", "error 3"}, {"abcdefg=1", "error 3"}, {"a<", "error 3"}, {"a<a", "error 3"}, {"a<a*1", "error 3"}, {"a<B", "error 3"},
		{"a<*1", "error 3"}, {"a=1;A=1", "error 3"},
		{"a=1000000001", "error 1"}, {"a=-1000000001", "error 1"}, {"a+10000000000", "error 1"}, {"a<b*-1", "error 1"}, {"a=1;b?1000000001;C=1", "error 1"},
		{most + ";a=9", "error 2"}, {most + ";A=9", "error 2"}, {most + ";a=x", "error 9"},
	} {
		talk(t, "clash "+x.word+" a=1", x.want, "clash a=1 "+x.word, x.want, "plan "+x.word, x.want, "add 0 "+x.word, x.want, "add 1 "+x.word, x.want,
			"plan a=1", "ok 0", "close 0", "ok 1", "close 1", "ok 1", "step 0", "error 6")
	}
	talk(t, "clash "+most+" a?0", "ok yes", "plan "+most, "ok 0", "add 0 "+most, "ok")
}

func TestP50MapsWithErrors(t *testing.T) {
	const most = "0:a:1:b:0:c:1:d:0:e:1:f:0:g:1:h:0:i:1:j:0:k:1:l:0"
	for _, x := range []struct{ word, want string }{
		{"x", "error 9"}, {":", "error 9"}, {"0:m:", "error 9"}, {"0:m:x", "error 9"}, {"00", "error 9"}, {"+1", "error 9"}, {"-0", "error 9"},
		{"100000000000", "error 9"}, {"a=1", "error 9"}, {":m:", "error 9"}, {"0::", "error 9"},
		{"0:m", "error 3"}, {"0:", "error 3"}, {"0::1", "error 3"}, {"0:M:1", "error 3"}, {"0:m:1:m:0", "error 3"}, {"0:m:1:a:0", "error 3"}, {"0:abcdefg:1", "error 3"},
		{"4:M:1", "error 3"},
		{"4", "error 1"}, {"-1", "error 1"}, {"10000000000", "error 1"}, {"0:m:4", "error 1"}, {"0:m:-1", "error 1"},
		{most + ":m:0", "error 2"}, {most + ":M:9", "error 2"}, {most + ":m:x", "error 9"},
	} {
		talk(t, "find "+x.word+" a", x.want, "plain "+x.word, x.want, "map 0 "+x.word, x.want, "map 1 "+x.word, x.want,
			"find "+x.word+" A", x.want, "close 0", "ok 1", "close 1", "ok 1", "step 0", "error 6")
	}
	talk(t, "find "+most+" l", "ok 0", "find "+most+" kz", "ok 1", "plain "+most, "ok "+most, "map 0 "+most, "ok")
}

// badNumbers are words that are no numbers.
func badNumbers() []string {
	return []string{
		"00", "01", "007", "000000000", "-0", "-1", "-", "+0", "+1", "+", "x", "0x", "x0", "0x0", "0b1", "0o1", "1_0", "1e1", "1.0", "0.", ".", "1,0", "'0'",
		"1000000000", "0000000001", "9999999999", "12345678901234567890", "999999999999999999999999999999", "-999999999", "-12345678",
		"\u0661", "\uff11", "\u00b2", "0\x00", "\x00", "\t0", "0\r", "a=1", "0:m:1", "#", "NaN", "Inf", "0;", ";",
	}
}

// A word that is no number is ErrWord; a number that is too large for a
// function has the error of this function.
func TestP50Numbers(t *testing.T) {
	for _, n := range badNumbers() {
		fails(t, "9",
			"add "+n+" a=1", "map "+n+" 0", "close "+n, "step "+n, "all "+n,
			"part "+n+" 0", "part 0 "+n, "part 9 "+n, "take "+n+" 0", "take 0 "+n, "take 9 "+n)
	}
	for _, n := range []string{"2", "3", "4", "9", "10", "99", "100", "255", "256", "12345678", "100000000", "123456789", "999999999"} {
		fails(t, "4",
			"add "+n+" a=1", "map "+n+" 0", "close "+n, "step "+n, "all "+n,
			"part "+n+" 0", "part "+n+" 9", "take "+n+" 0", "take 0 "+n, "take "+n+" "+n)
	}
	for _, n := range []string{"4", "5", "9", "10", "256", "100000000", "999999999"} {
		fails(t, "1", "part 0 "+n, "part 1 "+n)
	}
}

// The first word that is not valid determines the error.
func TestP50WordsFromLeftToRight(t *testing.T) {
	each(t,
		"none A=1 x", "error 9",
		"clash A=1", "error 3",
		"clash a=1000000001", "error 1",
		"clash A=1 a=x", "error 3",
		"clash a=x A=1", "error 9",
		"clash a=1000000001 A=1", "error 1",
		"clash A=1 a=1000000001", "error 3",
		"clash a=1 A=1 x", "error 3",
		"clash A=1 a=1 x y", "error 3",
		"clash a=1 a=1 A=1", "error 9",
		"find 4", "error 1",
		"find 0:m", "error 3",
		"find x A", "error 9",
		"find 4 A", "error 1",
		"find 4 A x", "error 1",
		"find 0 A x", "error 9",
		"find 0 A", "error 3",
		"plain 4 x", "error 1",
		"plan A=1 x", "error 3",
		"add x A=1", "error 9",
		"add 2 A=1", "error 3",
		"add 2 a=1000000001 x", "error 1",
		"add 2 a=1 x", "error 9",
		"add 2 a=1", "error 4",
		"add 2", "error 9",
		"add 0 A=1 x", "error 3",
		"map 01 4", "error 9",
		"map 2 4", "error 1",
		"map 2 0:m", "error 3",
		"map 2 0 x", "error 9",
		"map 2 0", "error 4",
		"map 2", "error 9",
		"close 2 x", "error 9",
		"step 2 x", "error 9",
		"step 0 x", "error 9",
		"all 2 x", "error 9",
		"part 2", "error 9",
		"part 2 x", "error 9",
		"part 2 4 x", "error 9",
		"part 2 4", "error 4",
		"part 0 4", "error 1",
		"take 2", "error 9",
		"take 2 x", "error 9",
		"take 2 2 x", "error 9",
		"take 0 2", "error 4",
	)
}

func TestP50Clash(t *testing.T) {
	each(t,
		"clash a=1 a=1", "ok yes",
		"clash a=1 b=1", "ok no",
		"clash a?1 a?2", "ok no",
		"clash a?1 a+2", "ok yes",
		"clash a+1 a?2", "ok yes",
		"clash a<b c<b", "ok no",
		"clash b<a c<b", "ok yes",
		"clash c<b b<a", "ok yes",
		"clash a<b*0 c<b*0", "ok yes",
		"clash a=1;b=2 c=3;d<b", "ok yes",
		"clash a=1;b=2 c=3;d<e", "ok no",
	)
}

func TestP50Find(t *testing.T) {
	each(t,
		"find 0:m:1 m", "ok 1",
		"find 0:m:1 l", "ok 0",
		"find 0:m:1 lzzzzz", "ok 0",
		"find 0:m:1 ma", "ok 1",
		"find 3 a", "ok 3",
		"find 3:c:2:m:0 b", "ok 3",
		"find 3:c:2:m:0 c", "ok 2",
		"find 3:c:2:m:0 zzzzzz", "ok 0",
		"find 0 A", "error 3",
		"find 0 abcdefg", "error 3",
		"find 0 0", "error 3",
		"find 0 a=1", "error 3",
		"find 0 #", "error 3",
	)
}

func TestP50Plain(t *testing.T) {
	each(t,
		"plain 0", "ok 0",
		"plain 3", "ok 3",
		"plain 0:m:1", "ok 0:m:1",
		"plain 0:m:0", "ok 0",
		"plain 0:c:0:m:1", "ok 0:m:1",
		"plain 0:c:1:m:1", "ok 0:c:1",
		"plain 2:a:2:b:2:c:3:d:3:e:2", "ok 2:c:3:e:2",
		"plain 0:a:1:b:0:c:1", "ok 0:a:1:b:0:c:1",
	)
}

func TestP50Plan(t *testing.T) {
	talk(t,
		"plan a+1", "ok 0",
		"plan b+1", "ok 0 0",
		"plan a+1", "ok 0 0 1",
		"plan c<a", "ok 0 0 1 2",
		"plan d<a", "ok 0 0 1 2 2",
		"plan z?0", "ok 0 0 1 2 2 0",
		"plan a=0;c=0", "ok 0 0 1 2 2 0 3",
	)
	talk(t, "plan a?1", "ok 0", "plan a?1", "ok 0 0", "plan a=1", "ok 0 0 1", "plan a?1", "ok 0 0 1 2")
}

// A plan that is replied to with an error is not in the list.
func TestP50PlanWithErrorChangesNothing(t *testing.T) {
	talk(t,
		"plan a+1", "ok 0",
		"plan A=1", "error 3",
		"plan a=x", "error 9",
		"plan", "error 9",
		"plan a=1 a=1", "error 9",
		"plan a=1000000001", "error 1",
		"plan a+1", "ok 0 1",
		"clash a+1 a+1", "ok yes",
		"add 0 a+1", "ok",
		"plan a+1", "ok 0 1 2",
	)
}

func TestP50PlanLimit(t *testing.T) {
	var turns []string
	reply := "ok"
	for level := range 60 {
		reply += " " + strconv.Itoa(level)
		turns = append(turns, "plan a+1", reply)
	}
	turns = append(turns, times(70, "plan z+1", "error 2")...)
	talk(t, append(turns, "plan A=1", "error 3", "plan z+1", "error 2", "clash a=1 a=1", "ok yes", "add 0 a=1", "ok", "close 0", "ok 1")...)
}

func TestP50Start(t *testing.T) {
	each(t,
		"waits", "ok 0 1",
		"step 0", "error 6",
		"step 1", "error 6",
		"step 2", "error 4",
		"all 0", "ok",
		"all 1", "ok",
		"all 2", "error 4",
		"part 0 0", "ok",
		"part 1 3", "ok",
		"part 0 4", "error 1",
		"part 2 0", "error 4",
		"take 0 1", "ok",
		"take 1 0", "ok",
		"take 0 0", "ok",
		"take 0 2", "error 4",
		"take 2 0", "error 4",
		"close 0", "ok 1",
		"close 1", "ok 1",
		"close 2", "error 4",
		"add 0 a=1", "ok",
		"add 1 a=1", "ok",
		"add 2 a=1", "error 4",
		"map 0 0", "ok",
		"map 1 0", "ok",
		"map 2 0", "error 4",
		"plan a=1", "ok 0",
	)
}

// The map at the start is 0:m:1, and both replicas have it.
func TestP50MapAtStart(t *testing.T) {
	for _, i := range []string{"0", "1"} {
		talk(t,
			"add 0 a=1;lzzzzz=2;m=3;zzzzzz=4;l=5;ma=6", "ok", "close 0", "ok 1", "close 1", "ok 1", "step "+i, "ok yes",
			"all "+i, "ok a=1 l=5 lzzzzz=2 m=3 ma=6 zzzzzz=4",
			"part "+i+" 0", "ok a=1 l=5 lzzzzz=2",
			"part "+i+" 1", "ok m=3 ma=6 zzzzzz=4",
			"part "+i+" 2", "ok",
			"part "+i+" 3", "ok",
		)
	}
}

func TestP50CloseAndWaits(t *testing.T) {
	talk(t,
		"waits", "ok 0 1",
		"close 0", "ok 1", "waits", "ok 1",
		"close 0", "ok 2", "waits", "ok 1",
		"close 1", "ok 1", "waits", "ok 1",
		"close 1", "ok 2", "waits", "ok 0 1",
		"close 1", "ok 3", "waits", "ok 0",
		"close 2", "error 4", "close", "error 9", "close 00", "error 9", "waits", "ok 0",
		"close 0", "ok 3", "waits", "ok 0 1",
	)
}

func TestP50CloseLimit(t *testing.T) {
	var turns []string
	for i := range 60 {
		turns = append(turns, "close 1", "ok "+strconv.Itoa(i+1))
	}
	talk(t, append(turns, "close 1", "error 2", "waits", "ok 0", "close 1", "error 2", "close 0", "ok 1", "close 1", "error 2", "close 2", "error 4")...)
}

func TestP50AddLimit(t *testing.T) {
	talk(t, join(
		times(30, "add 0 a+1", "ok"), times(29, "add 1 a+1", "ok"), times(1, "map 0 1", "ok"),
		times(2, "add 0 a+1", "error 2"), times(2, "map 1 2", "error 2"), times(1, "add 2 a+1", "error 4"), times(1, "add 0 A+1", "error 3"),
		[]string{"close 0", "ok 1", "close 1", "ok 1"},
		times(60, "step 0", "ok yes"),
		[]string{"step 0", "error 6", "part 0 0", "ok", "part 0 1", "ok a=59", "add 1 a+1", "error 2"},
	)...)
}

// The log has the entries of input 0 first, whenever they were added, and a
// round that is not complete is not in it.
func TestP50LogOfRounds(t *testing.T) {
	talk(t,
		"add 1 b<a", "ok", "close 1", "ok 1", "add 1 c=9", "ok", "step 0", "error 6",
		"add 0 a=1", "ok", "add 0 a+1", "ok", "step 0", "error 6",
		"close 0", "ok 1", "add 0 d=9", "ok",
		"step 0", "ok yes", "all 0", "ok a=1",
		"step 0", "ok yes", "all 0", "ok a=2",
		"step 0", "ok yes", "all 0", "ok a=2 b=2",
		"step 0", "error 6", "all 0", "ok a=2 b=2",
		"close 0", "ok 2", "step 0", "error 6",
		"close 1", "ok 2",
		"step 0", "ok yes", "all 0", "ok a=2 b=2 d=9",
		"step 0", "ok yes", "all 0", "ok a=2 b=2 c=9 d=9",
		"step 0", "error 6", "all 1", "ok",
	)
}

func TestP50StepOfTransactions(t *testing.T) {
	talk(t,
		"add 0 a=5;b=-7", "ok", "add 0 a?6;c=1", "ok", "add 0 z<a*4", "ok", "add 0 z<a*4", "ok", "add 0 a+1000000000", "ok", "add 0 b=0", "ok", "add 0 y<a", "ok", "close 0", "ok 1", "close 1", "ok 1",
		"step 1", "ok yes", "all 1", "ok a=5 b=-7",
		"step 1", "ok no", "all 1", "ok a=5 b=-7",
		"step 1", "ok yes", "all 1", "ok a=1 b=-7 z=4",
		"step 1", "ok no", "all 1", "ok a=1 b=-7 z=4",
		"step 1", "ok no", "all 1", "ok a=1 b=-7 z=4",
		"step 1", "ok yes", "all 1", "ok a=1 z=4",
		"step 1", "ok yes", "all 1", "ok a=1 y=1 z=4",
		"part 1 0", "ok a=1", "part 1 1", "ok y=1 z=4",
		"step 1", "error 6",
	)
}

func TestP50StepOfMaps(t *testing.T) {
	talk(t,
		"add 0 a=1;n=2;z=3", "ok", "map 0 1:b:2", "ok", "map 1 3:n:0:o:3", "ok", "map 1 3:n:0:o:3", "ok", "close 0", "ok 1", "close 1", "ok 1",
		"step 0", "ok yes", "part 0 0", "ok a=1", "part 0 1", "ok n=2 z=3",
		"step 0", "ok yes", "part 0 0", "ok", "part 0 1", "ok a=1", "part 0 2", "ok n=2 z=3", "part 0 3", "ok", "all 0", "ok a=1 n=2 z=3",
		"step 0", "ok yes", "part 0 0", "ok n=2", "part 0 1", "ok", "part 0 2", "ok", "part 0 3", "ok a=1 z=3", "all 0", "ok a=1 n=2 z=3",
		"step 0", "ok yes", "part 0 0", "ok n=2", "part 0 3", "ok a=1 z=3", "all 0", "ok a=1 n=2 z=3",
		"step 0", "error 6", "part 1 0", "ok", "part 1 3", "ok",
	)
}

func TestP50PairsOfManyKeys(t *testing.T) {
	var turns []string
	reply := "ok"
	for i := range byte(26) {
		turns = append(turns, sets('a'+i), "ok")
		for k := range byte(8) {
			reply += " " + string([]byte{'a' + i, 'a' + k}) + "=-1000000000"
		}
	}
	turns = append(turns, "close 0", "ok 1", "close 1", "ok 1")
	turns = append(turns, times(26, "step 1", "ok yes")...)
	talk(t, append(turns, "all 1", reply, "all 0", "ok", "take 0 1", "ok", "all 0", reply)...)
}

func TestP50Take(t *testing.T) {
	talk(t,
		"add 0 a=5", "ok", "map 0 2", "ok", "add 0 a?9", "ok", "close 0", "ok 1", "close 1", "ok 1",
		"step 0", "ok yes",
		"take 1 0", "ok", "all 1", "ok a=5", "part 1 0", "ok a=5",
		"step 1", "ok yes", "part 1 2", "ok a=5", "part 1 0", "ok", "part 0 0", "ok a=5", "part 0 2", "ok",
		"take 1 0", "error 6", "part 1 2", "ok a=5", "part 1 0", "ok",
		"step 1", "ok no", "step 1", "error 6",
		"take 0 1", "ok", "part 0 2", "ok a=5", "part 0 0", "ok", "step 0", "error 6",
		"take 1 0", "ok", "take 0 0", "ok", "take 1 1", "ok", "all 1", "ok a=5",
	)
}

// The replicas have states of their own, and share none after a take.
func TestP50ReplicasAreApart(t *testing.T) {
	talk(t,
		"add 0 a=1", "ok", "add 1 b=2", "ok", "close 0", "ok 1", "close 1", "ok 1",
		"step 0", "ok yes", "all 0", "ok a=1", "all 1", "ok",
		"take 1 0", "ok", "step 1", "ok yes", "all 0", "ok a=1", "all 1", "ok a=1 b=2",
		"step 0", "ok yes", "all 0", "ok a=1 b=2", "step 0", "error 6", "step 1", "error 6",
	)
}

// The list of plan and the log have nothing to do with each other.
func TestP50ListAndLogAreApart(t *testing.T) {
	talk(t,
		"plan a=1", "ok 0", "clash a=1 a=1", "ok yes", "close 0", "ok 1", "close 1", "ok 1", "step 0", "error 6", "all 0", "ok",
		"add 0 a=1", "ok", "close 0", "ok 2", "close 1", "ok 2", "step 0", "ok yes", "plan b=1", "ok 0 0", "all 0", "ok a=1",
	)
}

// Find and plain look at the map in the line, and change none.
func TestP50MapsInLinesAreApart(t *testing.T) {
	talk(t,
		"add 0 a=1", "ok", "close 0", "ok 1", "close 1", "ok 1", "find 2 a", "ok 2", "plain 3:a:3", "ok 3",
		"step 0", "ok yes", "part 0 0", "ok a=1", "part 0 2", "ok", "part 0 3", "ok",
	)
}
