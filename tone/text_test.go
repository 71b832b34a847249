package tone_test

import (
	"strings"
	"testing"

	"clavecin/api"
	"clavecin/tone"
)

func TestText(t *testing.T) {
	for _, c := range []struct {
		a    api.Tone
		want string
	}{
		{fifth, "-1.1.0/1"}, {unison, "0.0.0/1"}, {of(0, 0, 1, 4), "0.0.1/4"}, {of(7, 0, 0, 12), "7.0.0/12"},
		{of(960, -960, 959, 24), "960.-960.959/24"}, {of(-10, -100, -9, 10), "-10.-100.-9/10"},
	} {
		if s, err := tone.Text(c.a); s != c.want || err != api.OK {
			t.Errorf("Text(%v): %q, error %d", c.a, s, err)
		}
		x, err := tone.Parse(c.want)
		wantTone(t, c.want, x, err, c.a)
	}
}

// TestTextAndParse tests T7.
func TestTextAndParse(t *testing.T) {
	r := newRand()
	list := sample(r)
	for range 2000 {
		list = append(list, random(r, 960, 24))
	}
	for _, a := range list {
		s, err := tone.Text(a)
		if err != api.OK {
			t.Errorf("Text(%v): error %d", a, err)
		}
		x, err := tone.Parse(s)
		wantTone(t, s, x, err, a)
	}
}

func TestParseErrors(t *testing.T) {
	for _, s := range []string{
		"", ".", "/", "../", "0", "0.0", "0.0.0", "0.0.0/", "0.0/1", "0/1", "0.0.0.0/1", "0.0.0/1/1", "0.0.0/1.", "0.0.0/1/", ".0.0/1", "0..0/1", "0.0./1",
		"-1.1.0/01", "-01.1.0/1", "-1.01.0/1", "-1.1.00/1", "00.0.0/1", "-0.0.0/1", "0.-0.0/1", "0.0.-0/1", "+1.0.0/1", "1.+1.0/1", "1.0.0/+1",
		"-2.2.0/2", "0.0.0/2", "1.0.0/0", "1.0.0/-1", "1.0.0/25", "0.0.0/0", "961.0.0/1", "0.-961.0/1", "0.0.961/1", "1.0.0/24000",
		" -1.1.0/1", "-1.1.0/1 ", "-1. 1.0/1", "-1.1.0/1\n", "-1,1,0/1", "-1.1.0:1", "--1.1.0/1", "-.1.0/1", "1e2.0.0/1", "0x1.0.0/1", "1_0.0.0/1", "a.b.c/d",
		"18446744073709551617.0.0/1", "0.0.0/18446744073709551617", "-18446744073709551617.1.0/1", "4294967297.0.0/1",
		"\xff.0.0/1", "\u0661.0.0/1", "1.0.0/1\x00", "1/0.0.0/1", "1/0.0.0", "0.0/0.1",
		strings.Repeat("0", 100000) + "1.0.0/1", strings.Repeat("1", 100000), strings.Repeat(".", 100000), "1.0.0/" + strings.Repeat("9", 100000),
	} {
		x, err := tone.Parse(s)
		if err != api.ErrForm || x != (api.Tone{}) {
			t.Errorf("Parse(%.40q): %v, error %d", s, x, err)
		}
	}
}

// TestParseAlike changes every byte of a text: what is read must have that text.
func TestParseAlike(t *testing.T) {
	for _, s := range []string{"-1.1.0/1", "960.-959.10/24", "0.0.1/4"} {
		for i := range len(s) {
			for b := range 256 {
				for _, like := range []string{s[:i] + string([]byte{byte(b)}) + s[i+1:], s[:i] + string([]byte{byte(b)}) + s[i:], s[:i] + s[i+1:]} {
					x, err := tone.Parse(like)
					back, textErr := tone.Text(x)
					if err == api.OK && (textErr != api.OK || back != like) || err != api.OK && (err != api.ErrForm || x != (api.Tone{})) {
						t.Errorf("Parse(%q): %v, error %d", like, x, err)
					}
				}
			}
		}
	}
}
