package tone

import (
	"clavecin/api"
	"clavecin/nat"
)

// The numbers of this package are far shorter than the longest ones of nat, and it does not divide by 0:
// the functions of nat that are called here return no error.

func sum(a, b api.Nat) api.Nat {
	s, _ := nat.Add(a, b)
	return s
}

func product(a, b api.Nat) api.Nat {
	p, _ := nat.Mul(a, b)
	return p
}

func quotient(a, b api.Nat) api.Nat {
	q, _, _ := nat.DivMod(a, b)
	return q
}

func power(base uint64, n int) api.Nat {
	p, _ := nat.Pow(nat.Of(base), n)
	return p
}

func compare(a, b api.Nat) int {
	c, _ := nat.Cmp(a, b)
	return c
}
