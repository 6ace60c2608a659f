package desk

import (
	"strconv"

	"ropery/api"
)

// failed returns the reply to an error.
func failed(e api.Errno) string {
	return "error " + strconv.Itoa(int(e))
}

// ok returns the reply of a command without a result, or raises its error.
func ok(e api.Errno) string {
	return must("ok", e)
}

// yes returns the reply of a command with the result yes or no.
func yes(is bool) string {
	if is {
		return "ok yes"
	}
	return "ok no"
}

// numbers returns the reply of a command whose result is numbers.
func numbers(l ...int) string {
	reply := "ok"
	for _, n := range l {
		reply += " " + strconv.Itoa(n)
	}
	return reply
}

// pairs returns the reply of a command whose result is pairs.
func pairs(l []api.Pair) string {
	reply := "ok"
	for _, p := range l {
		reply += " " + p.Key + "=" + strconv.Itoa(p.Value)
	}
	return reply
}
