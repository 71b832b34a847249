package tone

import (
	"clavecin/api"
	"clavecin/nat"
)

// ruler compares products of powers of 2, 3 and 5 with 1. To multiply such powers out would take too long: it adds logarithms.
// Its marks are 2^bits times half of the logarithms of 16/15, of 25/24 and of 81/80, each too small by less than `bits`.
// They only serve as bounds, so every answer is exact.
type ruler struct {
	bits  int
	marks [3]api.Nat
}

// newRuler returns a coarse ruler, which is enough for most tones.
func newRuler() *ruler {
	r := &ruler{}
	r.mark(32)
	return r
}

func (r *ruler) mark(bits int) {
	r.bits = bits
	r.marks = [3]api.Nat{halfLog(31, bits), halfLog(49, bits), halfLog(161, bits)}
}

// halfLog returns 2^bits times half of the logarithm of (n+1)/(n-1), for n > 30 and bits > 30.
// That half is 1/n + 1/(3*n^3) + 1/(5*n^5) + ...; there are fewer than bits/9 + 1 terms to add,
// each of which is less than 2 too small, and what is left out is less than 1.
func halfLog(n uint64, bits int) api.Nat {
	term, _ := nat.Shift(nat.Of(1), bits)
	term = quotient(term, nat.Of(n))
	var total api.Nat
	for odd := uint64(1); len(term) > 0; odd += 2 {
		total = sum(total, quotient(term, nat.Of(odd)))
		term = quotient(term, nat.Of(n*n))
	}
	return total
}

// sign compares 2^two * 3^three * 5^five with 1. If the ruler is too coarse it is made finer:
// no other product than that without factors is 1, so a ruler that is fine enough exists.
func (r *ruler) sign(two, three, five int) int {
	if two == 0 && three == 0 && five == 0 {
		return 0
	}
	// 2 is (16/15)^7 * (25/24)^5 * (81/80)^3, and 3 and 5 are such products, too.
	counts := [3]int{
		7*two + 11*three + 16*five,
		5*two + 8*three + 12*five,
		3*two + 5*three + 7*five,
	}
	for {
		if s := r.look(counts); s != 0 {
			return s
		}
		r.mark(2 * r.bits)
	}
}

// look compares with 1 the product of so many of the three intervals; it returns 0 if the ruler is too coarse.
func (r *ruler) look(counts [3]int) int {
	var up, down span
	for i, n := range counts {
		if n > 0 {
			up.extend(r.marks[i], r.bits, n)
		} else {
			down.extend(r.marks[i], r.bits, -n)
		}
	}
	switch {
	case compare(up.least, down.most) >= 0:
		return 1
	case compare(down.least, up.most) >= 0:
		return -1
	}
	return 0
}

// span contains bounds of a length.
type span struct {
	least, most api.Nat
}

// extend adds n lengths, each of which is at least mark and less than mark + slack.
func (s *span) extend(mark api.Nat, slack, n int) {
	count := nat.Of(uint64(n))
	s.least = sum(s.least, product(mark, count))
	s.most = sum(s.most, product(sum(mark, nat.Of(uint64(slack))), count))
}
