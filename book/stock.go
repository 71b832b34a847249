package book

import (
	"cmp"
	"slices"
	"strings"

	"clavecin/api"
)

// place is where a balance is.
type place struct {
	account, item string
}

func (p place) isOutside() bool { return strings.HasPrefix(p.account, "out") }

func source(m api.Move) place { return place{m.From, m.Item} }

func target(m api.Move) place { return place{m.To, m.Item} }

// stock is the balances that are not 0.
type stock map[place]int

// do does moves.
func (s stock) do(moves []api.Move) {
	for _, m := range moves {
		s.add(source(m), -m.Qty)
		s.add(target(m), m.Qty)
	}
}

func (s stock) add(p place, qty int) {
	s[p] += qty
	if s[p] == 0 {
		delete(s, p)
	}
}

// check returns why an entry may not be done, if it may not.
func (s stock) check(moves []api.Move) api.Errno {
	changes := stock{}
	changes.do(moves)
	err := api.OK
	for p, change := range changes {
		balance := s[p] + change
		if !within(balance, -api.MaxQty, api.MaxQty) {
			return api.ErrRange
		}
		if balance < 0 && !p.isOutside() {
			err = api.ErrStock // unless another balance is outside the range
		}
	}
	return err
}

// lots returns the balances in their order.
func (s stock) lots() []api.Lot {
	var lots []api.Lot
	for p, qty := range s {
		lots = append(lots, api.Lot{Account: p.account, Item: p.item, Qty: qty})
	}
	slices.SortFunc(lots, func(a, b api.Lot) int {
		return cmp.Or(strings.Compare(a.Account, b.Account), strings.Compare(a.Item, b.Item))
	})
	return lots
}
