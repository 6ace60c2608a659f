package desk

import (
	"ropery/api"
	"ropery/copies"
	"ropery/deed"
	"ropery/plan"
	"ropery/shard"
	"ropery/text"
)

// How many inputs and replicas the interpreter has.
const (
	inputs   = 2
	replicas = 2
)

// interpreter has all that one line leaves for the next ones.
type interpreter struct {
	*copies.Copies
	list []api.Deed // the transactions of plan
}

// command reads the words behind its name and returns what the line does. As
// it does nothing itself, a line with an invalid word has no effect.
type command func(r *reader) effect

// effect executes a line and returns the reply.
type effect func() string

// newInterpreter returns an interpreter that has executed nothing.
func newInterpreter() *interpreter {
	m := api.Map{Cuts: []string{"m"}, Owners: []int{0, 1}}
	// The arguments are valid, so that there is no error.
	c, _ := copies.New(inputs, replicas, m, nil)
	return &interpreter{Copies: c}
}

// execute executes a line, which has at least one word, and returns the reply.
// An error is raised with panic where it is found.
func (in *interpreter) execute(words []string) (reply string) {
	defer func() {
		if raised := recover(); raised != nil {
			// Only errors are raised. Should a fault of the program ever raise
			// something else, this is error 0, which is no reply otherwise.
			e, _ := raised.(api.Errno)
			reply = failed(e)
		}
	}()
	r := &reader{words}
	do := in.command(r.word())(r)
	r.end()
	return do()
}

// command returns the command with a name, or raises an error if there is none.
func (in *interpreter) command(name string) command {
	c, known := in.commands()[name]
	if !known {
		panic(api.ErrWord)
	}
	return c
}

// commands returns the commands by their names.
func (in *interpreter) commands() map[string]command {
	return map[string]command{
		"clash": func(r *reader) effect {
			a, b := r.deed(), r.deed()
			return func() string { return yes(must(deed.Clash(a, b))) }
		},
		"find": func(r *reader) effect {
			m, key := r.partitionMap(), r.word()
			return func() string { return numbers(must(shard.Find(m, key))) }
		},
		"plain": func(r *reader) effect {
			m := r.partitionMap()
			return func() string { return "ok " + must(text.Map(must(shard.Plain(m)))) }
		},
		"plan": func(r *reader) effect {
			d := r.deed()
			return func() string { return numbers(in.plan(d)...) }
		},
		"add": func(r *reader) effect {
			input, d := r.number(), r.deed()
			return func() string { return ok(in.Add(input, api.Entry{Deed: d})) }
		},
		"map": func(r *reader) effect {
			input, m := r.number(), r.partitionMap()
			return func() string { return ok(in.Add(input, api.Entry{IsMap: true, Map: m})) }
		},
		"close": func(r *reader) effect {
			input := r.number()
			return func() string { return numbers(must(in.Close(input))) }
		},
		"waits": func(*reader) effect {
			return func() string { return numbers(in.Waits()...) }
		},
		"step": func(r *reader) effect {
			replica := r.number()
			return func() string { return yes(must(in.Step(replica))) }
		},
		"all": func(r *reader) effect {
			replica := r.number()
			return func() string { return pairs(must(in.All(replica))) }
		},
		"part": func(r *reader) effect {
			replica, owner := r.number(), r.number()
			return func() string { return pairs(must(in.Part(replica, owner))) }
		},
		"take": func(r *reader) effect {
			replica, from := r.number(), r.number()
			return func() string { return ok(in.Take(replica, from)) }
		},
	}
}

// plan appends a transaction to the list and returns the levels of the list.
func (in *interpreter) plan(d api.Deed) []int {
	list := append(in.list, d)
	levels := must(plan.Rounds(list))
	// Only now, so that a transaction too many is not in the list.
	in.list = list
	return levels
}

// must returns what a function returned, or raises its error.
func must[T any](result T, e api.Errno) T {
	if e != api.OK {
		panic(e)
	}
	return result
}
