package house

import (
	"strconv"
	"strings"

	"clavecin/api"
)

// reply is the answer to a line.
type reply interface {
	text() string // its lines, each one ended by a newline
}

// failure is the reply of an error.
type failure api.Errno

func (f failure) text() string {
	return "! " + strconv.Itoa(int(f)) + "\n"
}

// sentence is a reply of one line, by its words.
type sentence []string

func (s sentence) text() string {
	return strings.Join(s, " ") + "\n"
}

// several is replies one after the other. Without any it is no reply.
type several []reply

func (l several) text() string {
	var all strings.Builder
	for _, r := range l {
		all.WriteString(r.text())
	}
	return all.String()
}

// unless returns the reply of an error, or the other replies if there is none.
func unless(err api.Errno, replies ...reply) reply {
	if err != api.OK {
		return failure(err)
	}
	return several(replies)
}

func say(words ...string) reply {
	return sentence(words)
}

// list returns a line of a word and numbers, which are all less than 2^63.
func list[N int | uint64](word string, numbers ...N) reply {
	s := sentence{word}
	for _, n := range numbers {
		s = append(s, strconv.FormatInt(int64(n), 10))
	}
	return s
}

func yesOrNo(answer bool) string {
	if answer {
		return "yes"
	}
	return "no"
}
