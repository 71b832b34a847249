package house_test

import (
	"strings"
	"testing"

	"clavecin/api"
	"clavecin/house"
)

func TestExamples(t *testing.T) {
	wantTalk(t, house.New(), `
> tone -1.1.0/1
tone -1.1.0/1 cents 701
> post outside store m0g350 90000
entry 0
> balance store m0g350
balance 90000
> temper
! 8
> ring 3 2 0 3 3 2 1000
> temper
steps 1 1 1
cost 3
> plan 5
! 1
> post a a b 1
! 1
> post a b
! 2
`)
}

// samples returns a line of each command, in which every word behind the name is needed.
func samples() []string {
	return []string{
		"tone -1.1.0/1", "ring 3 2 0 3 3 2 1000", "weigh fifth 0 1", "weigh third 2 1000", "temper", "steps 1", "scale 1 1", "beats 1 1", "closes 1",
		"gauges 1", "metal 1 1", "course 1 1 1 1", "string 1 1", "wire 1 1 1", "coils 1", "jack 1 1", "quill 1 1", "voice 1 1", "tie 1 1 1", "regulate 1",
		"register 1 0 0 on", "register 1 0 0 off", "action 1 1", "key 0 1", "ticks 1", "on 0", "off 0", "state 0 0", "task 1 1 1", "plan 1", "curve",
		"shape 1 1 1 turn", "shape 1 1 1 fixed", "panel 1 1 1", "saw 1 1 1", "post out a b 1", "reverse 0", "balance a b", "lots", "book", "arm 0", "restart 0", "clear ring",
	}
}

// isForm tells whether a house replies to a line with ErrForm, on a copy.
func isForm(h *house.House, line string) bool {
	return h.Clone().Line(line) == "! 2\n"
}

// TestForms: the number of words, the words and the blanks between them.
func TestForms(t *testing.T) {
	h := house.New()
	for _, line := range samples() {
		if isForm(h, line) || isForm(h, "try "+line) {
			t.Errorf("%q is refused", line)
		}
		bad := []string{" " + line, line + " ", line + "  ", strings.Replace(line+" ", " ", "  ", 1), "x" + line, strings.ToUpper(line), "\x00" + line, "\t" + line}
		name, rest, _ := strings.Cut(line, " ")
		bad = append(bad, name+"\t"+rest, name+"x "+rest, name+"  "+rest)
		if !strings.Contains(" steps gauges metal coils task ", " "+name+" ") {
			bad = append(bad, line+" 1", line+" 1 1")
		}
		if !strings.Contains(" tone balance clear ", " "+name+" ") {
			bad = append(bad, line+"x", line+"\t", line+"\r")
		}
		bad = append(bad, line+" ?", line+" x", line+" x x x 1 x")
		words := strings.Split(line, " ")
		for i := range words[1:] {
			bad = append(bad, strings.Join(words[:i+1], " "))
		}
		for _, b := range bad {
			wantFailure(t, h.Clone(), api.ErrForm, b, "try "+b)
		}
	}
	wantFailure(t, h, api.ErrForm, " ", "  ", "x", "!", "? lots", "tryx", "TRY lots", "Lots", "LOTS", "lot", "lots lots", "\t", "\r", "é", "\xff", "N", "W", "fifth|third", "...", "try", "try ")
}

// TestAnyWords: the blanks count where any words may stand, too.
func TestAnyWords(t *testing.T) {
	h := house.New()
	wantFailure(t, h, api.ErrForm,
		"tone ", "tone  -1.1.0/1", "tone -1.1.0/1 ", "tone -1.1.0/1 x", "tone  ", "balance", "balance a", "balance a ", "balance a  b", "balance  a b", "balance a b ", "balance a b c", "balance  ", "balance   ",
		"clear", "clear ", "clear  ring", "clear ring ", "clear ring ties", "clear x", "clear RING", "clear rin", "clear rings", "clear steps", "clear book", "clear W",
		"post", "post ", "post out a b", "post out a b 1 ", "post out a b 1 out", "post out a b 1 out a", "post out a b 1 out a b", "post  out a b 1", "post out  a b 1", "post out a  1", "post out a b  1",
		"post out a b x", "post out a b 1 out a b x", "post out a b x out a b 1", "post 1 2 3 four", "post a b c 1.0",
		"weigh sixth 0 1", "weigh fifth|third 0 1", "weigh 0 1", "weigh fifth 0", "weigh fifth 0 1 2", "weigh  0 1", "weigh Fifth 0 1",
		"register 1 0 0", "register 1 0 0 yes", "register 1 0 0 1", "register 1 0 0 ON", "register on 1 0 0", "register 1 0 0 on off", "register 1 0 0 on|off", "register 1 0 0 ",
		"shape 1 1 1", "shape 1 1 1 turned", "shape 1 1 1 on", "shape 1 1 1 turn turn", "shape turn 1 1 1", "shape 1 1 1 ")
	wantTalk(t, h, "> lots\n> book\n")
}

// goodNumbers and badNumbers are what may be a number, and what may not.

func goodNumbers() []string {
	return []string{"0", "1", "-1", "9", "10", "100", "-10", "999999999999", "-999999999999", "100000000000"}
}

func badNumbers() []string {
	return []string{
		"", "-", "+", "+1", "+0", "-0", "--1", "-+1", "00", "01", "-01", "007", "0x1", "0b1", "1_0", "1e3", "1.0", "1.", ".5", "1,0", "a", "1a", "a1", "1-", "1000000000000", "-1000000000000",
		"9223372036854775807", "-9223372036854775808", "9223372036854775808", "18446744073709551616", strings.Repeat("9", 1000), strings.Repeat("0", 13), "0000000000001", "\xd9\xa3", "1\t", "\t1", "1\r", "N", "W", "½", "-é", "1\x00",
	}
}

// TestNumbers puts words in the place of every number of every command.
func TestNumbers(t *testing.T) {
	for _, line := range samples() {
		words := strings.Split(line, " ")
		for i, word := range words {
			if strings.Trim(word, "0123456789") != "" {
				continue
			}
			with := func(number string) string {
				return strings.Join(append(append(append([]string{}, words[:i]...), number), words[i+1:]...), " ")
			}
			for _, n := range goodNumbers() {
				if line := with(n); isForm(house.New(), line) {
					t.Errorf("%q is refused", line)
				}
			}
			for _, n := range badNumbers() {
				wantFailure(t, house.New(), api.ErrForm, with(n))
			}
		}
	}
}

// TestMoreNumbers: what may come any number of times.
func TestMoreNumbers(t *testing.T) {
	h := house.New()
	for _, line := range []string{"steps 1", "gauges 1", "metal 1 1", "coils 9", "task 9 9 9"} {
		for _, more := range []string{" 1", " 1 2", " 1 2 3 4 5", strings.Repeat(" 1", 14)} {
			if isForm(h, line+more) {
				t.Errorf("%q is refused", line+more)
			}
			for _, n := range badNumbers() {
				wantFailure(t, h, api.ErrForm, line+more+" "+n, line+" "+n+more)
			}
		}
	}
	wantFailure(t, h, api.ErrForm, "steps", "gauges", "metal", "metal 1", "coils", "task", "task 1 1")
}

// TestLength: only the part before the first newline counts, and more than 4096 bytes of it are too many.
func TestLength(t *testing.T) {
	h := house.New()
	fill := func(start, with string, length int) string {
		return (start + strings.Repeat(with, length))[:length]
	}
	for _, start := range []string{"", "#", "lots", "try lots", "try ", "try try", " ", "post out a b 1", "\r"} {
		for _, length := range []int{4097, 4098, 10000, 1 << 20} {
			line := fill(start, "x", length)
			wantFailure(t, h, api.ErrLong, line, line+"\n", line+"\nlots")
		}
	}
	wantFailure(t, h, api.ErrForm, fill("", "x", 4096), fill("lots ", "x", 4096), fill("try lots", "x", 4096), fill("try ", " ", 4096), fill("", " ", 4096))
	wantSilent(t, h, fill("#", "é", 4096), fill("#", "x", 4096), fill("try #", "x", 4096), fill("#", " ", 4096)+"\n", fill("# ", "x", 4096)+"\n"+fill("", "y", 9999))
	wantFailure(t, h, api.ErrLong, strings.Repeat("é", 2049))
	// A line of 4095 bytes that is done.
	moves := strings.Repeat(" out a bcdefghijklm 1", 195)
	wantFailure(t, h, api.ErrArg, ("post" + moves)[:4+21*194])
	for _, line := range []string{"post out store a 1\nlots", "post out store a 1\n", "post out store a 1\n\n! 2\n", "post out store a 1\n" + fill("", "z", 5000)} {
		wantReply(t, house.New(), line, "entry 0\n")
	}
	wantSilent(t, h, "\nlots", "\n", "\n\n", "#x\nnothing")
	wantFailure(t, h, api.ErrForm, "lots\r\n", " \nlots", "x\nlots", "try\nlots", "try \nlots")
}

func TestSilent(t *testing.T) {
	h := house.New()
	wantSilent(t, h, "", "#", "##", "# ", "#lots", "# post out store a 1", "#\xff\x00", "#\t", "# try")
	wantFailure(t, h, api.ErrForm, " #", " # x", "x#", "\xef\xbb\xbf#")
	wantTalk(t, h, "> lots\n> book\n")
}

// TestNoHouse is rule R1: a house that is nil, and one that New did not return.
func TestNoHouse(t *testing.T) {
	for _, h := range []*house.House{nil, {}, new(house.House)} {
		for _, line := range append(samples(), "", "#", "x", "try lots", "try", strings.Repeat("x", 5000), "\n", " ") {
			wantFailure(t, h, api.ErrState, line)
		}
		if h.Lots() != nil || h.Book() != "" || h.Clone() != nil {
			t.Error("a house that is none has something in it")
		}
	}
}

// TestAnyBytes is rule R1: no text makes a house fail.
func TestAnyBytes(t *testing.T) {
	r := newRand()
	pieces := append(samples(), "try ", " ", "  ", "\n", "-", "0", "999999999999", "-999999999999", "out", "#", "\xff", "\x00", "post", "é", "! 2")
	pieces = append(pieces, badNumbers()...)
	h := house.New()
	for range 20000 {
		line := ""
		for range between(r, 1, 4) {
			line += pieces[r.Intn(len(pieces))]
			if r.Intn(2) == 0 {
				line += " "
			}
		}
		reply := h.Line(line)
		if reply != "" && !strings.HasSuffix(reply, "\n") {
			t.Fatalf("%q: %q", short(line), short(reply))
		}
	}
}
