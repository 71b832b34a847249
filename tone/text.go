package tone

import (
	"strconv"
	"strings"

	"clavecin/api"
)

// Text returns a Tone's text.
func Text(a api.Tone) (string, api.Errno) {
	if Check(a) != api.OK {
		return "", api.ErrForm
	}
	exponents := strconv.Itoa(a.Two) + "." + strconv.Itoa(a.Three) + "." + strconv.Itoa(a.Five)
	return exponents + "/" + strconv.Itoa(a.Den), api.OK
}

// Parse reads a Tone's text.
func Parse(s string) (api.Tone, api.Errno) {
	two, rest, _ := strings.Cut(s, ".")
	three, rest, _ := strings.Cut(rest, ".")
	five, den, _ := strings.Cut(rest, "/")
	x := api.Tone{Two: number(two), Three: number(three), Five: number(five), Den: number(den)}
	if text, err := Text(x); err != api.OK || text != s {
		return api.Tone{}, api.ErrForm
	}
	return x, api.OK
}

// number reads an integer. What it makes of anything else does not matter, because no integer's text is that.
func number(s string) int {
	n, _ := strconv.Atoi(s)
	return n
}
