package desk_test

import (
	"strings"
	"sync"
	"testing"

	"ropery/desk"
)

// checkForm checks that there is at most one reply for each line, and that
// each has a form of P50.
func checkForm(t *testing.T, script string) {
	t.Helper()
	got := desk.Run(script)
	if got == "" {
		return
	}
	replies, ended := strings.CutSuffix(got, "\n")
	lines := strings.Split(replies, "\n")
	if !ended || len(lines) > strings.Count(script, "\n")+1 {
		t.Errorf("Run(%q) = %q", script, got)
	}
	for _, reply := range lines {
		first, rest, _ := strings.Cut(reply, " ")
		known := len(rest) == 1 && strings.Contains("123456789", rest)
		if first != "ok" && (first != "error" || !known) {
			t.Errorf("Run(%q) = %q", script, got)
		}
	}
}

// Any bytes at all.
func TestP1AnyBytes(t *testing.T) {
	for b := range 256 {
		checkForm(t, string([]byte{byte(b)}))
		for c := range 256 {
			checkForm(t, string([]byte{byte(b), byte(c)}))
		}
	}
	for seed := range 2000 {
		f := fixed(9000 + seed)
		var script []byte
		for range f.below(400) {
			if f.below(2) == 0 {
				script = append(script, byte(f.below(256)))
			} else {
				script = append(script, f.oneOf(" ", "\n", "0", "a", ":", ";", "=", "<", "*", "#")...)
			}
		}
		checkForm(t, string(script))
	}
}

// Scripts with some bytes changed, removed or doubled.
func TestP1ChangedScripts(t *testing.T) {
	for seed := range 1000 {
		f := fixed(20000 + seed)
		script := strings.Join(f.lines(60), "\n")
		for range 1 + f.below(40) {
			at := f.below(len(script))
			middle := ""
			switch f.below(4) {
			case 0:
				middle = script[at:at+1] + script[at:at+1]
			case 1:
				middle = string([]byte{byte(f.below(256))})
			case 2:
				middle = f.oneOf(" ", "\n", "-", "99999999999999999999", "4", "m", "A")
			}
			script = script[:at] + middle + script[at+1:]
		}
		checkForm(t, script)
		var want []string
		o := newModel()
		for line := range strings.SplitSeq(script, "\n") {
			want = append(want, o.reply(line))
		}
		if strings.Count(script, "\n") < 200 && desk.Run(script) != said(want) {
			t.Fatalf("seed %d: Run(%q) = %q, want %q", seed, script, desk.Run(script), said(want))
		}
	}
}

// Long lines, long words, and many words.
func TestP1LongLines(t *testing.T) {
	for _, unit := range []string{"0", "9", "a", "a=1;", "0:", ":", ";", "<", "a ", "0 ", "\xff", "-", "a<b*", "#"} {
		for _, start := range []string{"", "clash ", "clash a=1 ", "find ", "find 0 ", "plain ", "plan ", "add ", "add 0 ", "map 0 ", "close ", "waits ", "step ", "all ", "part ", "part 0 ", "take 0 "} {
			for _, n := range []int{9, 10, 11, 1000, (65536 - len(start)) / len(unit)} {
				checkForm(t, start+strings.Repeat(unit, n))
			}
		}
	}
}

// The same script has the same replies, whatever other scripts did before.
func TestP2RunHasNoState(t *testing.T) {
	scripts := []string{"", "waits", "plan a=1\nplan a=1", "add 0 a=1\nclose 0\nclose 1\nstep 0\nall 0", strings.Repeat("x\n", 201)}
	for seed := range 20 {
		f := fixed(30000 + seed)
		scripts = append(scripts, strings.Join(f.lines(200), "\n"))
	}
	var want []string
	for _, s := range scripts {
		want = append(want, desk.Run(s))
	}
	for range 3 {
		for i, s := range scripts {
			if got := desk.Run(s); got != want[i] {
				t.Errorf("Run(%q) = %q after other scripts, want %q", s, got, want[i])
			}
		}
	}
}

// Scripts that run at the same time have nothing to do with each other.
func TestP2RunsAreApart(t *testing.T) {
	var all sync.WaitGroup
	for seed := range 16 {
		all.Go(func() {
			f := fixed(40000 + seed%4)
			lines := f.lines(200)
			want := said(newModel().replies(lines))
			for range 5 {
				if got := desk.Run(strings.Join(lines, "\n")); got != want {
					t.Errorf("Run(%q) = %q, want %q", lines, got, want)
				}
			}
		})
	}
	all.Wait()
}

// The timing of two inputs has no effect on the replicas.
func TestP50TimingHasNoEffect(t *testing.T) {
	for seed := range 30 {
		f := fixed(50000 + seed)
		var input [2][]string
		for i, name := range []string{"0", "1"} {
			for range 3 {
				for range f.below(5) {
					input[i] = append(input[i], f.oneOf("add "+name+" "+f.deedWord(), "map "+name+" "+f.mapWord()))
				}
				input[i] = append(input[i], "close "+name)
			}
		}
		const end = "all 0\nall 1\npart 0 0\npart 0 1\npart 1 2\npart 1 3"
		want := ""
		for range 10 {
			script := mixed(&f, input) + strings.Repeat("step 0\nstep 1\n", 40) + end
			replies := strings.Split(desk.Run(script), "\n")
			got := strings.Join(replies[len(replies)-7:], "\n")
			if want == "" {
				want = got
			}
			if got != want || replies[len(replies)-7] != replies[len(replies)-6] {
				t.Fatalf("seed %d: Run(%q) ends with %q, want %q", seed, script, got, want)
			}
		}
	}
}

// mixed returns the lines of two inputs in some order, with steps and takes of
// the replicas in between.
func mixed(f *fixed, input [2][]string) string {
	script := ""
	for len(input[0])+len(input[1]) > 0 {
		i := f.below(2)
		if len(input[i]) == 0 {
			i = 1 - i
		}
		script += input[i][0] + "\n"
		input[i] = input[i][1:]
		for range f.below(3) {
			script += f.oneOf("step 0", "step 1", "take 0 1", "take 1 0") + "\n"
		}
	}
	return script
}
