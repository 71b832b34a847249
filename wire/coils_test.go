package wire_test

import (
	"math"
	"math/rand"
	"slices"
	"testing"
	"time"

	"clavecin/api"
	"clavecin/wire"
)

func TestCoilsExamples(t *testing.T) {
	for _, c := range []struct {
		pieces []int
		coil   int
		want   []int
	}{
		{[]int{5, 5, 5, 5}, 10, []int{0, 0, 1, 1}},
		{[]int{6, 4, 5, 5}, 10, []int{0, 0, 1, 1}},
		{[]int{4, 6, 5, 5}, 10, []int{0, 0, 1, 1}},
		{[]int{3, 3, 4, 7, 7, 6}, 10, []int{0, 1, 2, 0, 1, 2}},
		{[]int{6, 6, 6}, 10, []int{0, 1, 2}},
		{[]int{10}, 10, []int{0}},
		{[]int{1}, 1, []int{0}},
		{nil, 1, nil},
		{[]int{}, 1000000000, nil},
		{slices.Repeat([]int{1000000000}, 14), 1000000000, []int{0, 1, 2, 3, 4, 5, 6, 7, 8, 9, 10, 11, 12, 13}},
		{slices.Repeat([]int{1}, 14), 14, make([]int, 14)},
		{slices.Repeat([]int{1}, 14), 13, append(make([]int, 13), 1)},
		// The second piece has room beside the first one, but the fourth one has room nowhere else.
		{[]int{4, 3, 7, 6}, 10, []int{0, 1, 1, 0}},
		// The first coil would get its second piece earlier in [0 1 2 0 1 2], but the third piece decides.
		{[]int{3, 2, 2, 6, 7, 7}, 10, []int{0, 1, 1, 1, 0, 2}},
	} {
		list, n, err := wire.Coils(c.pieces, c.coil)
		wantList(t, "Coils", list, err, c.want, api.OK)
		wantInt(t, "Coils", n, err, highest(c.want)+1, api.OK)
	}
}

// highest returns the greatest number of a list, -1 for none.
func highest(list []int) int {
	most := -1
	for _, n := range list {
		most = max(most, n)
	}
	return most
}

// cutting is what Coils and Floor are called with.
type cutting struct {
	pieces []int
	coil   int
}

// badPieces are the pieces and coils that are out of range.
func badPieces() []cutting {
	list := []cutting{{slices.Repeat([]int{1}, 15), 10}, {slices.Repeat([]int{11}, 15), 10}, {nil, 0}}
	for _, bad := range []int{0, -1, 1000000001, math.MinInt, math.MaxInt} {
		list = append(list, cutting{[]int{bad}, 10}, cutting{[]int{11, bad}, 10}, cutting{[]int{bad, 11}, 10})
		list = append(list, cutting{[]int{1}, bad}, cutting{[]int{bad}, bad}, cutting{nil, bad})
	}
	return list
}

func TestCoilsErrors(t *testing.T) {
	for _, c := range badPieces() {
		list, n, err := wire.Coils(c.pieces, c.coil)
		wantList(t, "Coils", list, err, nil, api.ErrArg)
		wantInt(t, "Coils", n, err, 0, api.ErrArg)
		n, err = wire.Floor(c.pieces, c.coil)
		wantInt(t, "Floor", n, err, 0, api.ErrArg)
	}
	for _, pieces := range [][]int{{11}, {1, 11}, {11, 1}, {1000000000}, slices.Repeat([]int{11}, 14)} {
		list, n, err := wire.Coils(pieces, 10)
		wantList(t, "Coils", list, err, nil, api.ErrLong)
		wantInt(t, "Coils", n, err, 0, api.ErrLong)
		n, err = wire.Floor(pieces, 10)
		wantInt(t, "Floor", n, err, 0, api.ErrLong)
	}
}

// cut returns the lexicographically least cutting from at most count coils, by trying one coil after the other; nil if there is none.
func cut(pieces []int, coil, count int) []int {
	numbers := make([]int, 0, len(pieces))
	rooms := slices.Repeat([]int{coil}, count)
	var fill func(used int) bool
	fill = func(used int) bool {
		if len(numbers) == len(pieces) {
			return true
		}
		piece := pieces[len(numbers)]
		for n := 0; n <= used && n < count; n++ {
			if rooms[n] < piece {
				continue
			}
			rooms[n] -= piece
			numbers = append(numbers, n)
			if fill(max(used, n+1)) {
				return true
			}
			numbers = numbers[:len(numbers)-1]
			rooms[n] += piece
		}
		return false
	}
	if !fill(0) {
		return nil
	}
	return numbers
}

// checkCoils compares with trying all cuttings, and tests promise W3.
func checkCoils(t *testing.T, pieces []int, coil int) {
	t.Helper()
	count := 0
	var want []int
	for len(pieces) > 0 && want == nil {
		count++
		want = cut(pieces, coil, count)
	}
	list, n, err := wire.Coils(pieces, coil)
	if !slices.Equal(list, want) || n != count || err != api.OK {
		t.Fatalf("Coils(%v, %d): %v, %d, error %d, want %v, %d", pieces, coil, list, n, err, want, count)
	}
	floor, err := wire.Floor(pieces, coil)
	if floor != bound(pieces, coil) || floor > n || n > len(pieces) || err != api.OK {
		t.Fatalf("Floor(%v, %d): %d, error %d, want %d; Coils: %d", pieces, coil, floor, err, bound(pieces, coil), n)
	}
}

// bound is the document's definition of Floor, with ceil and the sums as they are written there.
func bound(pieces []int, coil int) int {
	best := 0
	for _, k := range append([]int{0}, pieces...) {
		if 2*k > coil {
			continue
		}
		var j1, j2, j3 []int
		for _, p := range pieces {
			if p > coil-k {
				j1 = append(j1, p)
			} else if 2*p > coil {
				j2 = append(j2, p)
			} else if p >= k {
				j3 = append(j3, p)
			}
		}
		over := total(j3) - (len(j2)*coil - total(j2))
		best = max(best, len(j1)+len(j2)+max(0, int(math.Ceil(float64(over)/float64(coil)))))
	}
	return best
}

func total(list []int) int {
	sum := 0
	for _, n := range list {
		sum += n
	}
	return sum
}

func anyPieces(r *rand.Rand, count, low, high int) []int {
	pieces := make([]int, count)
	for i := range pieces {
		pieces[i] = between(r, low, high)
	}
	return pieces
}

func TestCoilsOfAll(t *testing.T) {
	r := newRand()
	for range 4000 {
		coil := between(r, 1, 30)
		low := between(r, 1, coil)
		checkCoils(t, anyPieces(r, r.Intn(9), low, between(r, low, coil)), coil)
	}
	for range 300 {
		coil := between(r, 20, 1000)
		checkCoils(t, anyPieces(r, between(r, 9, 11), coil/5, coil*3/5), coil)
	}
}

// TestFullCoils cuts whole coils into pieces and shuffles them: there is no waste, and the pieces fit in few ways.
func TestFullCoils(t *testing.T) {
	r := newRand()
	for range 200 {
		coil := between(r, 10, 40)
		var pieces []int
		for len(pieces) <= 9 {
			a := between(r, 1, coil-2)
			b := between(r, 1, coil-a-1)
			pieces = append(pieces, a, b, coil-a-b)
		}
		r.Shuffle(len(pieces), func(i, j int) { pieces[i], pieces[j] = pieces[j], pieces[i] })
		checkCoils(t, pieces, coil)
	}
}

// TestMostPieces is the greatest number of pieces: they are cut quickly.
func TestMostPieces(t *testing.T) {
	r := newRand()
	for range 60 {
		pieces := anyPieces(r, 14, 200000000, 600000000)
		start := time.Now()
		list, n, err := wire.Coils(pieces, 1000000000)
		if took := time.Since(start); took > time.Second {
			t.Errorf("Coils took %v", took)
		}
		floor, _ := wire.Floor(pieces, 1000000000)
		if err != api.OK || floor > n || n > 14 || highest(list)+1 != n {
			t.Fatalf("Coils(%v): %v, %d, error %d; Floor: %d", pieces, list, n, err, floor)
		}
		rooms := slices.Repeat([]int{1000000000}, n)
		for i, number := range list {
			rooms[number] -= pieces[i]
			if rooms[number] < 0 || number > highest(list[:i])+1 {
				t.Fatalf("Coils(%v): %v", pieces, list)
			}
		}
		if want := cut(pieces, 1000000000, n); !slices.Equal(list, want) {
			t.Fatalf("Coils(%v): %v, want %v", pieces, list, want)
		}
	}
}

func TestFloor(t *testing.T) {
	for _, c := range []struct {
		pieces     []int
		coil, want int
	}{
		{[]int{6, 6, 6}, 10, 3},
		{nil, 10, 0},
		{[]int{1}, 10, 1},
		{[]int{5, 5, 5}, 10, 2},
		{[]int{5, 5, 5, 5}, 10, 2},
		{[]int{7, 4, 4}, 10, 2},       // k of 4: the long piece alone, and the two others share a coil
		{[]int{7, 7, 4, 4, 4}, 10, 4}, // k of 4: no piece of 4 joins one of 7
		{[]int{7, 7, 3, 3, 3}, 10, 3},
		{[]int{6, 6, 4, 4, 1}, 10, 3}, // k of 0: the sum is 21
		{[]int{4, 4, 4, 4}, 11, 2},    // a bound only: Coils needs 2
		{[]int{4, 4, 4}, 10, 2},
		{[]int{3, 3, 3, 3}, 10, 2},
		{[]int{1000000000, 1000000000}, 1000000000, 2},
		{slices.Repeat([]int{500000000}, 13), 1000000000, 7},
		{slices.Repeat([]int{500000001}, 14), 1000000000, 14},
		{slices.Repeat([]int{1}, 14), 1000000000, 1},
		{[]int{5, 6}, 10, 2}, // 5 is half of the coil: k of 5 makes 6 a piece of J1
	} {
		n, err := wire.Floor(c.pieces, c.coil)
		wantInt(t, "Floor", n, err, c.want, api.OK)
	}
}
