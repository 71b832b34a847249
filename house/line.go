package house

import (
	"slices"
	"strconv"
	"strings"

	"clavecin/api"
)

// Line does a line and returns its reply.
func (h *House) Line(s string) string {
	if !h.isMade() {
		return failure(api.ErrState).text()
	}
	line, _, _ := strings.Cut(s, "\n")
	return h.answer(line).text()
}

// answer does what a line says.
func (h *House) answer(line string) reply {
	if len(line) > api.MaxLine {
		return failure(api.ErrLong)
	}
	if line == "" || line[0] == '#' {
		return several{}
	}
	if tried, found := strings.CutPrefix(line, "try "); found {
		return h.try(tried)
	}
	words := strings.Split(line, " ")
	for _, c := range commands() {
		if c.name == words[0] {
			return c.obey(h, words[1:])
		}
	}
	return failure(api.ErrForm)
}

// try does what a line says on a copy of the house.
func (h *House) try(line string) reply {
	first, _, _ := strings.Cut(line, " ")
	if line == "" || first == "try" {
		return failure(api.ErrForm)
	}
	return h.Clone().answer(line)
}

// args are the words behind the name of a command.
type args struct {
	numbers []int
	words   []string // those that are no numbers
}

// obey does a command, if the words behind its name are as they must be.
func (c command) obey(h *House, words []string) reply {
	kinds := c.kinds(len(words))
	if len(kinds) != len(words) {
		return failure(api.ErrForm)
	}
	var a args
	for i, word := range words {
		if !a.add(kinds[i], word) {
			return failure(api.ErrForm)
		}
	}
	return c.do(h, a)
}

// kinds returns what so many words behind the name must be. If there cannot be so many, it returns the next number that there can be.
func (c command) kinds(count int) []string {
	kinds := strings.Fields(c.first)
	more := strings.Fields(c.more)
	for len(kinds) < count && len(more) > 0 {
		kinds = append(kinds, more...)
	}
	return kinds
}

// add adds a word and tells whether it is of a kind.
func (a *args) add(kind, word string) bool {
	if kind == "N" {
		n, valid := number(word)
		a.numbers = append(a.numbers, n)
		return valid
	}
	a.words = append(a.words, word)
	if kind == "W" {
		return word != ""
	}
	return slices.Contains(strings.Split(kind, "|"), word)
}

// number reads a number, and tells whether it is one.
func number(word string) (int, bool) {
	const least, most = -999999999999, 999999999999
	n, _ := strconv.Atoi(word)
	// What Atoi makes of anything else does not matter, because no number is written like that.
	return n, within(n, least, most) && strconv.Itoa(n) == word
}

func within(n, low, high int) bool {
	return low <= n && n <= high
}
