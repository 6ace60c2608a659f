package desk

import (
	"strconv"

	"ropery/api"
	"ropery/text"
)

// maxDigits is the limit of a number, which is shorter than those of package text.
const maxDigits = 9

// reader has the words of a line that have not been read. Its methods raise an
// error if the next word is not what they read.
type reader struct {
	words []string
}

// word reads a word of any kind.
func (r *reader) word() string {
	if len(r.words) == 0 {
		panic(api.ErrWord)
	}
	word := r.words[0]
	r.words = r.words[1:]
	return word
}

// number reads a number.
func (r *reader) number() int {
	word := r.word()
	n, err := strconv.Atoi(word)
	// Atoi also accepts leading zeros and signs.
	if len(word) > maxDigits || err != nil || n < 0 || strconv.Itoa(n) != word {
		panic(api.ErrWord)
	}
	return n
}

// deed reads a transaction.
func (r *reader) deed() api.Deed {
	return must(text.ReadDeed(r.word()))
}

// partitionMap reads a partition map.
func (r *reader) partitionMap() api.Map {
	return must(text.ReadMap(r.word()))
}

// end reads the end of the line.
func (r *reader) end() {
	if len(r.words) > 0 {
		panic(api.ErrWord)
	}
}
