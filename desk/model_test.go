package desk_test

import (
	"fmt"
	"regexp"
	"strings"
	"testing"

	"ropery/api"
	"ropery/deed"
	"ropery/desk"
	"ropery/plan"
	"ropery/shard"
	"ropery/text"
)

// fixed is a sequence of numbers that is the same in every run.
type fixed uint64

func (f *fixed) below(n int) int {
	*f = *f*6364136223846793005 + 1442695040888963407
	return int((uint64(*f) >> 33) % uint64(n))
}

func (f *fixed) oneOf(words ...string) string { return words[f.below(len(words))] }

// kinds are the kinds of words that a command takes.
func kinds(command string) (string, bool) {
	k, known := map[string]string{
		"clash": "DD", "find": "MS", "plain": "M", "plan": "D", "add": "ND", "map": "NM",
		"close": "N", "waits": "", "step": "N", "all": "N", "part": "NN", "take": "NN",
	}[command]
	return k, known
}

// model is what the lines so far have led to: the batches of each input, the
// last one of which is open, and how much of the log each replica has executed.
type model struct {
	list    []api.Deed
	batches [2][][]api.Entry
	added   int
	at      [2]int
}

func newModel() *model {
	return &model{batches: [2][][]api.Entry{make([][]api.Entry, 1), make([][]api.Entry, 1)}}
}

func (o *model) rounds() int { return min(len(o.batches[0]), len(o.batches[1])) - 1 }

func (o *model) log() []api.Entry {
	var log []api.Entry
	for r := range o.rounds() {
		log = append(append(log, o.batches[0][r]...), o.batches[1][r]...)
	}
	return log
}

// state executes the log of a replica from its beginning. It returns its map,
// its pairs and whether the last transaction was executed.
func (o *model) state(i int) (api.Map, []api.Pair, bool) {
	m, l, done := api.Map{Cuts: []string{"m"}, Owners: []int{0, 1}}, []api.Pair(nil), true
	for _, x := range o.log()[:o.at[i]] {
		done = true
		if x.IsMap {
			m = x.Map
		} else {
			l, done, _ = deed.Run(l, x.Deed)
		}
	}
	return m, l, done
}

// args are the words of a line that were read.
type args struct {
	deeds []api.Deed
	maps  []api.Map
	nums  []int
	other string
}

// read reads the words behind a command, of the kinds that it takes.
func read(kinds string, words []string) (args, api.Errno) {
	var a args
	for i, kind := range kinds {
		if i >= len(words) {
			return a, api.ErrWord
		}
		e := api.OK
		switch kind {
		case 'D':
			var d api.Deed
			d, e = text.ReadDeed(words[i])
			a.deeds = append(a.deeds, d)
		case 'M':
			var m api.Map
			m, e = text.ReadMap(words[i])
			a.maps = append(a.maps, m)
		case 'N':
			if !regexp.MustCompile(`\A(0|[1-9][0-9]{0,8})\z`).MatchString(words[i]) {
				e = api.ErrWord
			}
			n := 0
			fmt.Sscanf(words[i], "%d", &n)
			a.nums = append(a.nums, n)
		default:
			a.other = words[i]
		}
		if e != api.OK {
			return a, e
		}
	}
	if len(words) > len(kinds) {
		return a, api.ErrWord
	}
	return a, api.OK
}

// shown returns the reply of a result.
func shown(e api.Errno, results ...any) string {
	if e != api.OK {
		return fmt.Sprint("error ", int(e))
	}
	reply := "ok"
	for _, x := range results {
		switch y := x.(type) {
		case []int:
			for _, n := range y {
				reply += fmt.Sprint(" ", n)
			}
		case []api.Pair:
			for _, p := range y {
				reply += fmt.Sprintf(" %s=%d", p.Key, p.Value)
			}
		case bool:
			reply += map[bool]string{false: " no", true: " yes"}[y]
		default:
			reply += fmt.Sprint(" ", y)
		}
	}
	return reply
}

// add adds an entry to an input.
func (o *model) add(i int, x api.Entry) api.Errno {
	if i > 1 {
		return api.ErrNone
	}
	if o.added == 60 {
		return api.ErrLarge
	}
	last := len(o.batches[i]) - 1
	o.batches[i][last] = append(o.batches[i][last], x)
	o.added++
	return api.OK
}

func (o *model) close(i int) string {
	if i > 1 {
		return shown(api.ErrNone)
	}
	if len(o.batches[i]) > 60 {
		return shown(api.ErrLarge)
	}
	o.batches[i] = append(o.batches[i], nil)
	return shown(api.OK, len(o.batches[i])-1)
}

func (o *model) waits() string {
	var l []int
	for i := range o.batches {
		if len(o.batches[i])-1 == o.rounds() {
			l = append(l, i)
		}
	}
	return shown(api.OK, l)
}

func (o *model) plan(d api.Deed) string {
	levels, e := plan.Rounds(append(o.list, d))
	if e == api.OK {
		o.list = append(o.list, d)
	}
	return shown(e, levels)
}

// ofReplica makes a call for replica n[0].
func (o *model) ofReplica(command string, n []int) string {
	if n[0] > 1 || command == "take" && n[1] > 1 {
		return shown(api.ErrNone)
	}
	m, l, _ := o.state(n[0])
	switch command {
	case "step":
		if o.at[n[0]] == len(o.log()) {
			return shown(api.ErrWait)
		}
		o.at[n[0]]++
		_, _, done := o.state(n[0])
		return shown(api.OK, done)
	case "all":
		return shown(api.OK, l)
	case "part":
		part, e := shard.Part(m, l, n[1])
		return shown(e, part)
	default:
		if o.at[n[1]] < o.at[n[0]] {
			return shown(api.ErrWait)
		}
		o.at[n[0]] = o.at[n[1]]
		return shown(api.OK)
	}
}

// reply executes a line and returns the reply, or "" if there is none.
func (o *model) reply(line string) string {
	words := regexp.MustCompile(`[^ ]+`).FindAllString(line, -1)
	if len(words) == 0 || words[0] == "#" {
		return ""
	}
	k, known := kinds(words[0])
	if !known {
		return shown(api.ErrWord)
	}
	a, e := read(k, words[1:])
	if e != api.OK {
		return shown(e)
	}
	switch words[0] {
	case "clash":
		is, e := deed.Clash(a.deeds[0], a.deeds[1])
		return shown(e, is)
	case "find":
		owner, e := shard.Find(a.maps[0], a.other)
		return shown(e, owner)
	case "plain":
		m, _ := shard.Plain(a.maps[0])
		s, e := text.Map(m)
		return shown(e, s)
	case "plan":
		return o.plan(a.deeds[0])
	case "add":
		return shown(o.add(a.nums[0], api.Entry{Deed: a.deeds[0]}))
	case "map":
		return shown(o.add(a.nums[0], api.Entry{IsMap: true, Map: a.maps[0]}))
	case "close":
		return o.close(a.nums[0])
	case "waits":
		return o.waits()
	default:
		return o.ofReplica(words[0], a.nums)
	}
}

// replies executes lines and returns their replies.
func (o *model) replies(lines []string) []string {
	var replies []string
	for _, line := range lines {
		replies = append(replies, o.reply(line))
	}
	return replies
}

// deedWord returns a transaction, which is usually valid.
func (f *fixed) deedWord() string {
	if f.below(15) == 0 {
		return f.oneOf("a", "a=", "A=1", "a<a", "a=1000000001", "a<b*-1", "a=1;a=2;a=3;a=4;a=5;a=6;a=7;a=8;a=9", "0:m:1")
	}
	var ops []string
	for range 1 + f.below(3) {
		key, from := f.oneOf("a", "b", "lz", "m"), f.oneOf("c", "n", "z")
		if f.below(2) == 0 {
			key, from = from, key
		}
		n := fmt.Sprint(f.below(5))
		ops = append(ops, f.oneOf(key+"="+n, key+"+"+n, key+"+-"+n, key+"<"+from, key+"?"+n, key+"<"+from+"*"+n))
	}
	return strings.Join(ops, ";")
}

// mapWord returns a map, which is usually valid.
func (f *fixed) mapWord() string {
	if f.below(15) == 0 {
		return f.oneOf("x", "0:m", "0:M:1", "4", "0:m:-1", "0:z:1:a:2", "a=1")
	}
	word := fmt.Sprint(f.below(4))
	for _, cut := range []string{"b", "lz", "m", "n"} {
		if f.below(2) == 0 {
			word += fmt.Sprint(":", cut, ":", f.below(4))
		}
	}
	return word
}

// word returns a word of a kind, which is usually valid.
func (f *fixed) word(kind rune) string {
	switch kind {
	case 'D':
		return f.deedWord()
	case 'M':
		return f.mapWord()
	case 'S':
		return f.oneOf("a", "b", "bz", "lz", "m", "z", "A", "abcdefg", "0")
	}
	if f.below(25) == 0 {
		return f.oneOf(badNumbers()...)
	}
	return f.oneOf("0", "1", "0", "1", "0", "1", "0", "1", "0", "1", "2", "3", "4", "999999999")
}

// line returns a line, which is usually valid.
func (f *fixed) line() string {
	command := f.oneOf("clash", "find", "plain", "plan", "add", "add", "add", "add", "map", "map", "close", "close", "close", "close",
		"waits", "step", "step", "step", "step", "step", "all", "all", "part", "part", "take", "take")
	words := []string{command}
	k, _ := kinds(command)
	for _, kind := range k {
		words = append(words, f.word(kind))
	}
	switch f.below(40) {
	case 0:
		words = words[:len(words)-1]
	case 1:
		words = append(words, f.oneOf("x", "0", "#"))
	case 2:
		words[f.below(len(words))] = f.oneOf("none", "#", "x", "a=1", "0:m:1", "\t", "\xff")
	case 3:
		words = append([]string{"#"}, words...)
	case 4:
		words = append([]string{""}, append(words, "")...)
	case 5:
		return ""
	}
	return strings.Join(words, f.oneOf(" ", " ", " ", "  ", "   "))
}

func (f *fixed) lines(n int) []string {
	var l []string
	for range n {
		l = append(l, f.line())
	}
	return l
}

// said returns the replies that there are, each with a newline.
func said(replies []string) string {
	all := ""
	for _, reply := range replies {
		if reply != "" {
			all += reply + "\n"
		}
	}
	return all
}

func TestP50AgreesWithModel(t *testing.T) {
	seen := map[string]int{}
	for seed := range 300 {
		f := fixed(seed)
		lines := f.lines(f.below(201))
		replies := newModel().replies(lines)
		script := strings.Join(lines, "\n")
		if got, want := desk.Run(script), said(replies); got != want {
			t.Fatalf("seed %d: Run(%q) = %q, want %q", seed, script, got, want)
		}
		for i, reply := range replies {
			command, _, _ := strings.Cut(strings.TrimLeft(lines[i], " "), " ")
			if _, known := kinds(command); !known {
				command = "other"
			}
			first, rest, _ := strings.Cut(reply, " ")
			if first == "error" {
				first += " " + rest
			}
			seen[command+": "+first]++
		}
	}
	for _, x := range []string{
		"clash: ok", "find: ok", "plain: ok", "plan: ok", "add: ok", "map: ok", "close: ok", "waits: ok", "step: ok", "all: ok", "part: ok", "take: ok",
		"clash: error 9", "find: error 9", "plain: error 9", "plan: error 9", "add: error 9", "map: error 9", "close: error 9", "waits: error 9",
		"step: error 9", "all: error 9", "part: error 9", "take: error 9", "add: error 4", "map: error 4", "close: error 4", "step: error 4",
		"all: error 4", "part: error 4", "take: error 4", "step: error 6", "take: error 6", "part: error 1", "find: error 3", "other: error 9", "other: ",
	} {
		if seen[x] < 20 {
			t.Errorf("the scripts are too much alike: %d of %q", seen[x], x)
		}
	}
}

// Without its lines that were replied to with an error or not at all, a script
// has the same replies to all other lines.
func TestP50ErrorsChangeNothing(t *testing.T) {
	for seed := range 200 {
		f := fixed(5000 + seed)
		lines := f.lines(200)
		replies := newModel().replies(lines)
		var good, rest []string
		for i, reply := range replies {
			if strings.HasPrefix(reply, "ok") {
				good, rest = append(good, lines[i]), append(rest, reply)
			}
		}
		all := desk.Run(strings.Join(lines, "\n"))
		var oks []string
		for line := range strings.SplitSeq(all, "\n") {
			if strings.HasPrefix(line, "ok") {
				oks = append(oks, line)
			}
		}
		if got := desk.Run(strings.Join(good, "\n")); got != said(oks) || got != said(rest) {
			t.Fatalf("seed %d: the replies to %q are %q, want %q and %q", seed, good, got, said(oks), said(rest))
		}
	}
}

// Whatever follows, the replies to the lines before it stay the same.
func TestP50LinesOneAfterAnother(t *testing.T) {
	for seed := range 20 {
		f := fixed(7000 + seed)
		lines := f.lines(100)
		all := desk.Run(strings.Join(lines, "\n"))
		for n := range lines {
			part := desk.Run(strings.Join(lines[:n], "\n"))
			rest := desk.Run(strings.Join(append(lines[:n:n], "", " # x", "  "), "\n"))
			if !strings.HasPrefix(all, part) || part != rest {
				t.Fatalf("seed %d: the replies to the first %d lines are %q and %q, and %q to all", seed, n, part, rest, all)
			}
		}
	}
}
