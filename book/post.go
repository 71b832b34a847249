package book

import (
	"slices"

	"clavecin/api"
)

const maxReads = 64 // of one PostSince

// Post does an entry.
func (b *Book) Post(moves []api.Move) api.Errno {
	if err := b.Would(moves); err != api.OK {
		return err
	}
	err := b.disk.Append(text(moves))
	if err == api.OK {
		err = b.disk.Sync()
	}
	if err == api.OK {
		b.add(moves)
	}
	b.broken = err != api.OK && err != api.ErrFull
	return err
}

// Would tells whether an entry would be done.
func (b *Book) Would(moves []api.Move) api.Errno {
	if b.Broken() {
		return api.ErrState
	}
	if !isEntry(moves) {
		return api.ErrArg
	}
	return b.stock.check(moves)
}

// PostSince does an entry, unless something was changed since a mark.
func (b *Book) PostSince(mark int, reads []api.Lot, moves []api.Move) api.Errno {
	if b.Broken() {
		return api.ErrState
	}
	if !within(mark, 0, len(b.entries)) || !areReads(reads) || !isEntry(moves) {
		return api.ErrArg
	}
	if b.isStale(mark, reads, moves) {
		return api.ErrStale
	}
	return b.Post(moves)
}

func areReads(reads []api.Lot) bool {
	return len(reads) <= maxReads && !slices.ContainsFunc(reads, func(r api.Lot) bool { return !isName(r.Account) || !isName(r.Item) })
}

// isStale tells whether an entry since a mark touched what was read or what is to be moved.
func (b *Book) isStale(mark int, reads []api.Lot, moves []api.Move) bool {
	touched := map[place]bool{}
	for _, entry := range b.entries[mark:] {
		for _, m := range entry {
			touched[source(m)] = true
			touched[target(m)] = true
		}
	}
	return slices.ContainsFunc(reads, func(r api.Lot) bool { return touched[place{r.Account, r.Item}] }) ||
		slices.ContainsFunc(moves, func(m api.Move) bool { return touched[source(m)] || touched[target(m)] })
}

// Reverse does an entry the other way round.
func (b *Book) Reverse(number int) api.Errno {
	if b.Broken() {
		return api.ErrState
	}
	moves, err := b.Entry(number)
	if err != api.OK {
		return err
	}
	slices.Reverse(moves)
	for i, m := range moves {
		moves[i].From, moves[i].To = m.To, m.From
	}
	return b.Post(moves)
}
