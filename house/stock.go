package house

import (
	"strconv"
	"strings"

	"clavecin/api"
)

func (h *House) post(a args) reply {
	var moves []api.Move
	for i, qty := range a.numbers {
		names := a.words[3*i:]
		moves = append(moves, api.Move{From: names[0], To: names[1], Item: names[2], Qty: qty})
	}
	return h.enter(moves)
}

// enter posts an entry.
func (h *House) enter(moves []api.Move) reply {
	return h.entered(h.journal.Post(moves))
}

// entered tells the number of the last entry, unless it was not done.
func (h *House) entered(err api.Errno) reply {
	return unless(err, list("entry", h.journal.Count()-1))
}

func (h *House) reverse(a args) reply {
	return h.entered(h.journal.Reverse(a.numbers[0]))
}

func (h *House) tellBalance(a args) reply {
	account, item := a.words[0], a.words[1]
	if !isName(account) || !isName(item) {
		return failure(api.ErrArg)
	}
	return list("balance", h.journal.Balance(account, item))
}

// isName tells whether a word that is not empty is a name.
func isName(word string) bool {
	const letters = "abcdefghijklmnopqrstuvwxyz"
	return len(word) <= api.MaxName && strings.Contains(letters, word[:1]) && strings.Trim(word, letters+"0123456789") == ""
}

func (h *House) tellLots(args) reply {
	var lots several
	for _, lot := range h.journal.Lots() {
		lots = append(lots, say("lot", lot.Account, lot.Item, strconv.Itoa(lot.Qty)))
	}
	return lots
}

func (h *House) tellBook(args) reply {
	var entries several
	for number := range h.journal.Count() {
		moves, _ := h.journal.Entry(number)
		entry := sentence{"post"}
		for _, m := range moves {
			entry = append(entry, m.From, m.To, m.Item, strconv.Itoa(m.Qty))
		}
		entries = append(entries, entry)
	}
	return entries
}

func (h *House) arm(a args) reply {
	h.disk.Arm(a.numbers[0])
	return several{}
}

func (h *House) restart(a args) reply {
	h.disk.Restart(a.numbers[0])
	h.openBook()
	return several{}
}
