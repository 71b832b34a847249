package book

import (
	"slices"
	"strconv"
	"strings"

	"clavecin/api"
)

const (
	maxMoved  = 1000000000 // by one move
	moveWords = 4          // in the text of a move
)

func within(n, low, high int) bool {
	return low <= n && n <= high
}

func isName(s string) bool {
	if !within(len(s), 1, api.MaxName) || !isLetter(s[0]) {
		return false
	}
	for i := range len(s) {
		if !isLetter(s[i]) && !isDigit(s[i]) {
			return false
		}
	}
	return true
}

func isLetter(c byte) bool { return 'a' <= c && c <= 'z' }

func isDigit(c byte) bool { return '0' <= c && c <= '9' }

func isEntry(moves []api.Move) bool {
	return within(len(moves), 1, api.MaxMoves) && !slices.ContainsFunc(moves, func(m api.Move) bool { return !isMove(m) })
}

func isMove(m api.Move) bool {
	return isName(m.From) && isName(m.To) && isName(m.Item) && m.From != m.To && within(m.Qty, 1, maxMoved)
}

// text returns an entry as a line of a journal. Only its end is a newline, so that no proper beginning of it is a line.
func text(moves []api.Move) []byte {
	var words []string
	for _, m := range moves {
		words = append(words, m.From, m.To, m.Item, strconv.Itoa(m.Qty))
	}
	return []byte(strings.Join(words, " ") + "\n")
}

// firstEntry returns the moves that the first line of a journal stands for, and its length. It returns none if there is no such line.
func firstEntry(journal string) ([]api.Move, int) {
	line, _, _ := strings.Cut(journal, "\n")
	words := strings.Split(line, " ")
	var moves []api.Move
	for len(words) >= moveWords {
		qty, _ := strconv.Atoi(words[3])
		moves = append(moves, api.Move{From: words[0], To: words[1], Item: words[2], Qty: qty})
		words = words[moveWords:]
	}
	written := string(text(moves))
	if !strings.HasPrefix(journal, written) { // something is missing, left over or not a number
		return nil, 0
	}
	return moves, len(written)
}
