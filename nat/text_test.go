package nat_test

import (
	"math/big"
	"slices"
	"strings"
	"testing"

	"clavecin/api"
	"clavecin/nat"
)

// TestText tests N4.
func TestText(t *testing.T) {
	r := newRand()
	list := sample(r)
	for n := range 70 {
		x, _ := nat.Pow(nat.Of(10), n)
		less, _ := nat.Sub(x, nat.Of(1))
		list = append(list, x, less, random(r, n))
	}
	for _, x := range list {
		s, err := nat.Text(x)
		if err != api.OK || s != toBig(x).String() {
			t.Fatalf("Text of %s: %s, error %d", toBig(x), s, err)
		}
		back, err := nat.Parse(s)
		wantNat(t, "Parse of Text", back, err, x)
	}
}

// TestParse tests N4 from the other end.
func TestParse(t *testing.T) {
	for _, s := range []string{
		"0", "1", "9", "10", "4294967296", "9999999999999999999", "10000000000000000000", "18446744073709551615",
		"18446744073709551616", "1" + strings.Repeat("0", 38), strings.Repeat("9", api.MaxDigits),
		"1" + strings.Repeat("0", api.MaxDigits-1), "1" + strings.Repeat("01234567890", 700),
	} {
		x, err := nat.Parse(s)
		want, _ := new(big.Int).SetString(s, 10)
		wantBig(t, "Parse", x, err, want)
		if back, err := nat.Text(x); err != api.OK || back != s {
			t.Errorf("Text of Parse of %d digits: error %d", len(s), err)
		}
	}
}

func TestParseErrors(t *testing.T) {
	long := strings.Repeat("1", api.MaxDigits+1)
	for _, c := range []struct {
		name, s string
		want    api.Errno
	}{
		{"empty", "", api.ErrForm},
		{"a leading 0", "007", api.ErrForm},
		{"0 twice", "00", api.ErrForm},
		{"a sign", "-1", api.ErrForm},
		{"a plus", "+1", api.ErrForm},
		{"a blank behind", "1 ", api.ErrForm},
		{"a blank ahead", " 1", api.ErrForm},
		{"a letter", "12a4", api.ErrForm},
		{"hexadecimal", "0x10", api.ErrForm},
		{"an underscore", "1_000", api.ErrForm},
		{"the byte below 0", "1/", api.ErrForm},
		{"the byte above 9", "1:", api.ErrForm},
		{"digits not of ASCII", "\u0661\u0662", api.ErrForm},
		{"no text", "\xff\x00", api.ErrForm},
		{"too long", long, api.ErrLong},
		{"much too long", strings.Repeat("9", 1<<20), api.ErrLong},
		{"too long and malformed at the end", long + "x", api.ErrForm},
		{"too long and with a leading 0", "0" + long, api.ErrForm},
		{"many zeros", strings.Repeat("0", api.MaxDigits+1), api.ErrForm},
	} {
		x, err := nat.Parse(c.s)
		wantErr(t, c.name, x, err, c.want)
	}
}

func TestLongTexts(t *testing.T) {
	over, err := nat.Pow(nat.Of(10), api.MaxDigits)
	if err != api.OK {
		t.Fatal(err)
	}
	for _, x := range []api.Nat{over, pow2(4*api.MaxDigits - 1), pow2(4 * api.MaxDigits), full(api.MaxLimbs)} {
		if s, err := nat.Text(x); s != "" || err != api.ErrLong {
			t.Errorf("%d digits, error %d", len(s), err)
		}
	}
	most, _ := nat.Sub(over, nat.Of(1))
	if s, err := nat.Text(most); err != api.OK || s != strings.Repeat("9", api.MaxDigits) {
		t.Errorf("the greatest number: %d digits, error %d", len(s), err)
	}
}

// TestDigits tests N6.
func TestDigits(t *testing.T) {
	list := sample(newRand())
	for limbs := range 300 {
		list = append(list, full(limbs))
	}
	for _, x := range list {
		for _, base := range []uint32{2, 3, 7, 10, 16, 255, 65535, 65536, 1 << 31, 4294967295} {
			digits := slices.Collect(nat.Digits(x, base))
			if n := len(digits); n > 0 && digits[n-1] == 0 {
				t.Fatalf("a leading 0 in base %d", base)
			}
			total, unit := new(big.Int), big.NewInt(int64(base))
			for _, d := range slices.Backward(digits) {
				if d >= base {
					t.Fatalf("the digit %d in base %d", d, base)
				}
				total.Mul(total, unit).Add(total, big.NewInt(int64(d)))
			}
			if total.Cmp(toBig(x)) != 0 {
				t.Fatalf("the digits of %s in base %d do not add up", brief(x), base)
			}
		}
	}
}

func TestDigitsExamples(t *testing.T) {
	for _, c := range []struct {
		name string
		x    api.Nat
		base uint32
		want []uint32
	}{
		{"10 in base 2", nat.Of(10), 2, []uint32{0, 1, 0, 1}},
		{"1", nat.Of(1), 10, []uint32{1}},
		{"base 10", nat.Of(9070), 10, []uint32{0, 7, 0, 9}},
		{"the base itself", nat.Of(4294967295), 4294967295, []uint32{0, 1}},
		{"a power of the base", api.Nat{0, 0, 1}, 65536, []uint32{0, 0, 0, 0, 1}},
		{"0", nil, 10, nil},
		{"empty", api.Nat{}, 2, nil},
		{"base 0", nat.Of(5), 0, nil},
		{"base 1", nat.Of(5), 1, nil},
		{"malformed", api.Nat{5, 0}, 10, nil},
		{"too long", full(api.MaxLimbs + 1), 10, nil},
		{"0 in base 0", nil, 0, nil},
	} {
		seq := nat.Digits(c.x, c.base)
		for range 2 {
			if got := slices.Collect(seq); !slices.Equal(got, c.want) {
				t.Errorf("%s: %d, want %d", c.name, got, c.want)
			}
		}
	}
}

// TestDigitsStopped stops after every number of digits, within a range over the same sequence.
func TestDigitsStopped(t *testing.T) {
	x := random(newRand(), 12)
	kept := slices.Clone(x)
	seq := nat.Digits(x, 10)
	all := slices.Collect(seq)
	count := 0
	for range seq {
		var got []uint32
		for d := range seq {
			if len(got) == count {
				break
			}
			got = append(got, d)
		}
		if !slices.Equal(got, all[:count]) {
			t.Fatalf("stopped after %d: %d", count, got)
		}
		count++
	}
	if count != len(all) || !slices.Equal(x, kept) {
		t.Error("stopping has changed something")
	}
}

// TestDigitsKept: what is done to the number later has no effect on the sequence.
func TestDigitsKept(t *testing.T) {
	x := nat.Of(1234567890123456789)
	seq := nat.Digits(x, 10)
	want := slices.Collect(seq)
	clear(x)
	if got := slices.Collect(seq); !slices.Equal(got, want) {
		t.Errorf("%d, want %d", got, want)
	}
}

func TestLongDigits(t *testing.T) {
	count := 0
	for d := range nat.Digits(full(api.MaxLimbs), 1<<16) {
		if d != 1<<16-1 {
			t.Fatalf("digit %d is %d", count, d)
		}
		count++
	}
	if count != 2*api.MaxLimbs {
		t.Errorf("%d digits", count)
	}
}
