package wire

import (
	"slices"

	"clavecin/api"
)

const maxPiece = 1000000000

// Coils cuts pieces from as few coils as possible.
func Coils(pieces []int, coil int) ([]int, int, api.Errno) {
	if err := checkPieces(pieces, coil); err != api.OK {
		return nil, 0, err
	}
	if len(pieces) == 0 {
		return nil, 0, api.OK
	}
	count := lastCoil(pieces, slices.Repeat([]int{coil}, len(pieces))) + 1
	rooms := slices.Repeat([]int{coil}, count)
	numbers := make([]int, len(pieces))
	for i, piece := range pieces {
		// An empty coil is as good as any later one: the first coil that will do is a used one or the next one.
		for !canTake(numbers[i], piece, pieces[i+1:], rooms) {
			numbers[i]++
		}
		rooms[numbers[i]] -= piece
	}
	return numbers, count, api.OK
}

// checkPieces tells whether pieces can be cut from coils of a length.
func checkPieces(pieces []int, coil int) api.Errno {
	if len(pieces) > api.MaxPieces || !within(coil, 1, maxPiece) {
		return api.ErrArg
	}
	for _, piece := range pieces {
		if !within(piece, 1, maxPiece) {
			return api.ErrArg
		}
	}
	for _, piece := range pieces {
		if piece > coil {
			return api.ErrLong
		}
	}
	return api.OK
}

// canTake tells whether a coil has room for a piece such that the other ones have room, too.
func canTake(number, piece int, others, rooms []int) bool {
	if piece > rooms[number] {
		return false
	}
	left := slices.Clone(rooms)
	left[number] -= piece
	return lastCoil(others, left) < len(rooms)
}

// place is how far coils are used if they are used one after the other.
type place struct {
	coil, used int
}

// lastCoil returns the least number of a coil such that the coils up to it have room for all pieces, or len(rooms) if there is none.
func lastCoil(pieces, rooms []int) int {
	places := slices.Repeat([]place{{coil: len(rooms)}}, 1<<len(pieces))
	places[0] = place{}
	for set := range 1 << len(pieces) {
		for i, piece := range pieces {
			more := set | 1<<i
			if more == set {
				continue
			}
			// However a set is cut, a later place is never better to go on from.
			if after := places[set].add(piece, rooms); after.isBefore(places[more]) {
				places[more] = after
			}
		}
	}
	return places[len(places)-1].coil
}

// add returns the place after one more piece, which goes into the first coil from there on that has room for it.
func (p place) add(piece int, rooms []int) place {
	for p.coil < len(rooms) && p.used+piece > rooms[p.coil] {
		p = place{coil: p.coil + 1}
	}
	return place{coil: p.coil, used: p.used + piece}
}

func (p place) isBefore(q place) bool {
	return p.coil < q.coil || p.coil == q.coil && p.used < q.used
}

// Floor returns a lower bound of the number of coils.
func Floor(pieces []int, coil int) (int, api.Errno) {
	if err := checkPieces(pieces, coil); err != api.OK {
		return 0, err
	}
	bound := boundOf(0, pieces, coil)
	for _, k := range pieces {
		if 2*k <= coil {
			bound = max(bound, boundOf(k, pieces, coil))
		}
	}
	return bound, api.OK
}

// boundOf returns the bound of k: no two pieces longer than half a coil share one,
// and those that leave less than k share one with no piece of k or more.
func boundOf(k int, pieces []int, coil int) int {
	count, room, small := 0, 0, 0
	for _, piece := range pieces {
		switch {
		case piece > coil-k:
			count++
		case 2*piece > coil:
			count++
			room += coil - piece
		case piece >= k:
			small += piece
		}
	}
	// What is left over of the coils of the long pieces may take some of the short ones.
	if small > room {
		count += (small - room + coil - 1) / coil
	}
	return count
}
