package book_test

import (
	"bytes"
	"slices"
	"strings"
	"testing"

	"clavecin/api"
	"clavecin/book"
)

// TestArgumentsStay is rule R5: arguments are neither changed nor kept.
func TestArgumentsStay(t *testing.T) {
	b, d := newBook(t, "outside store plank 5")
	entry := moves("store bench plank 1  bench case plank 1  outside store wire 2  outside store nail 7")
	was, reads := slices.Clone(entry), lots("store wire 0 store nail 0")
	wasReads := slices.Clone(reads)
	wantErr(t, "Would", b.Would(entry[:3]), api.OK)
	wantErr(t, "Post", b.Post(entry[:2]), api.OK)
	wantErr(t, "PostSince", b.PostSince(2, reads[:1], entry[2:3]), api.OK)
	if !slices.Equal(entry, was) || !slices.Equal(reads, wasReads) {
		t.Error("an argument, or memory behind it, was changed")
	}
	clear(entry)
	clear(reads)
	m := modelOf("outside store plank 5", "store bench plank 1  bench case plank 1", "outside store wire 2")
	wantBook(t, "cleared arguments", b, m)
	wantErr(t, "Reverse", b.Reverse(1), api.OK)
	m.add(m.reversed(1))
	wantBook(t, "Reverse", b, m)
	wantBook(t, "opened again", wantOpen(t, d), m)
}

// TestResultsAreNew is rule R5: results share no memory with a book.
func TestResultsAreNew(t *testing.T) {
	b, d := newBook(t, script()...)
	m := modelOf(script()...)
	c, e := b.Clone()
	for _, x := range []*book.Book{c, b} {
		for range 2 {
			for i := range x.Count() {
				entry, err := x.Entry(i)
				wantErr(t, "Entry", err, api.OK)
				clear(entry[:cap(entry)])
				past, err := x.At(i)
				wantErr(t, "At", err, api.OK)
				clear(past[:cap(past)])
			}
			all, history := x.Lots(), x.History("store", "plank")
			clear(all[:cap(all)])
			clear(history[:cap(history)])
			wantBook(t, "cleared results", b, m)
			wantBook(t, "cleared results", c, m)
			wantPast(t, "cleared results", b, m)
		}
	}
	wantBook(t, "opened again", wantOpen(t, d), m)
	wantBook(t, "opened again", wantOpen(t, e), m)
}

// TestBytesAreNew is rule R5 for disks.
func TestBytesAreNew(t *testing.T) {
	d := book.NewDisk()
	behind := []byte("abcdef")
	wantErr(t, "Append", d.Append(behind[:3]), api.OK)
	wantErr(t, "Append", d.Append(behind[:3]), api.OK)
	if string(behind) != "abcdef" {
		t.Errorf("an argument, or memory behind it, was changed: %q", behind)
	}
	clear(behind)
	c := d.Clone()
	all := d.Bytes()
	clear(all[:cap(all)])
	wantDisk(t, "cleared bytes", d, diskState{"abcabc", 0, false})
	wantErr(t, "Cut", d.Cut(1), api.OK)
	wantErr(t, "Append", d.Append([]byte("xxxxx")), api.OK)
	wantErr(t, "Cut", c.Cut(2), api.OK)
	wantErr(t, "Append", c.Append([]byte("yyyy")), api.OK)
	wantDisk(t, "the disk", d, diskState{"axxxxx", 0, false})
	wantDisk(t, "the clone", c, diskState{"abyyyy", 0, false})
	// A caller may append what the disk gave out.
	wantErr(t, "Append", d.Append(d.Bytes()), api.OK)
	wantDisk(t, "appended to itself", d, diskState{"axxxxxaxxxxx", 0, false})
}

// TestNilAndEmpty is rule R4.
func TestNilAndEmpty(t *testing.T) {
	b, d := newBook(t, "outside store plank 5")
	wantRefused(t, b, d, modelOf("outside store plank 5"), func() []refused {
		return []refused{
			{"Would", b.Would(nil), api.ErrArg}, {"Would", b.Would([]api.Move{}), api.ErrArg},
			{"Post", b.Post(nil), api.ErrArg}, {"Post", b.Post([]api.Move{}), api.ErrArg},
			{"PostSince", b.PostSince(1, nil, nil), api.ErrArg}, {"PostSince", b.PostSince(1, []api.Lot{}, []api.Move{}), api.ErrArg},
		}
	})
	wantErr(t, "PostSince", b.PostSince(1, nil, moves("outside bench nail 1")), api.OK)
	wantErr(t, "PostSince", b.PostSince(2, []api.Lot{}, moves("outside bench nail 1")), api.OK)
	for _, nothing := range [][]byte{nil, {}} {
		e := book.NewDisk()
		e.Arm(2)
		wantErr(t, "Append", e.Append(nothing), api.OK)
		wantErr(t, "Append", e.Append(nothing), api.ErrDown)
		wantDisk(t, "Append of nothing", e, diskState{"", 0, true})
	}
}

// TestAgain is rule R6: the same calls have the same results.
func TestAgain(t *testing.T) {
	var first []byte
	var firstLots []api.Lot
	for range 20 {
		b, d := newBook(t, append(script(), strings.Repeat("out a b 1  out b a 1  out c d 1 ", 10))...)
		if first == nil {
			first, firstLots = d.Bytes(), b.Lots()
		}
		if !bytes.Equal(d.Bytes(), first) {
			t.Errorf("the disk is %q, and was %q", d.Bytes(), first)
		}
		wantList(t, "Lots", b.Lots(), api.OK, firstLots, api.OK)
		wantErr(t, "Would", b.Would(moves("outb a c 1  x y z 1")), api.ErrStock)
	}
}

// wantSomeBook is rule R1 for disks to which others have written: Open ends, with a book that keeps its promises. It returns how many entries there are.
func wantSomeBook(t *testing.T, written []byte) int {
	t.Helper()
	d := book.NewDisk()
	wantErr(t, "Append", d.Append(written), api.OK)
	b := wantOpen(t, d)
	m := modelOf()
	for i := range b.Count() {
		entry, err := b.Entry(i)
		wantErr(t, "Entry", err, api.OK)
		wantErr(t, "an entry of others", m.would(entry), api.OK)
		m.add(entry)
	}
	wantBook(t, "a disk of others", b, m)
	if !bytes.HasPrefix(written, d.Bytes()) || d.Safe() != len(d.Bytes()) {
		t.Errorf("Open of %s left %s", diskState{bytes: string(written)}.short(), stateOf(d).short())
	}
	before, count := d.Bytes(), b.Count()
	post(t, b, "outside store plank 1")
	m.add(moves("outside store plank 1"))
	wantBook(t, "opened again", wantOpen(t, d), m)
	if !bytes.HasPrefix(d.Bytes(), before) {
		t.Errorf("Post changed %s to %s", diskState{bytes: string(before)}.short(), stateOf(d).short())
	}
	return count
}

func TestDisksOfOthers(t *testing.T) {
	r := newRand()
	for range 300 {
		list := make([]byte, r.Intn(200))
		for i := range list {
			list[i] = "out ab19\n\x00\xff"[r.Intn(11)]
		}
		wantSomeBook(t, list)
	}
	_, d := newBook(t, script()...)
	good := d.Bytes()
	wantInt(t, "Count", wantSomeBook(t, good), len(script()))
	for i := range good {
		for _, value := range []byte{0, ' ', '\n', '0', '9', 'a', 'o', 'A', 255} {
			bad := slices.Clone(good)
			bad[i] = value
			wantSomeBook(t, bad)
		}
		wantSomeBook(t, slices.Delete(slices.Clone(good), i, i+1))
		wantSomeBook(t, good[i:])
	}
	for _, most := range [][]byte{make([]byte, 65000), bytes.Repeat([]byte{' '}, 65000), bytes.Repeat([]byte{'\n'}, 65000), bytes.Repeat([]byte("a b c 1 "), 8000)} {
		wantInt(t, "Count", wantSomeBook(t, most), 0)
	}
}
