package book_test

import (
	"math"
	"slices"
	"testing"

	"clavecin/api"
	"clavecin/book"
)

// script is entries that are allowed one after the other, some of which need the one before.
func script() []string {
	return []string{
		"outside store plank 5", "store bench plank 5  outside store wire 3", "bench case plank 1", "outside store plank 2  store bench plank 2  store bench wire 3",
		"bench outside plank 6  bench outside wire 3",
	}
}

// wantBroken tests that a broken book does nothing, and answers its other questions as before.
func wantBroken(t *testing.T, b *book.Book, d *book.Disk, m *model) {
	t.Helper()
	was := stateOf(d)
	if !b.Broken() {
		t.Error("the book is not broken")
	}
	for _, entry := range [][]api.Move{moves("outside store plank 1"), moves("store bench plank 999"), nil} {
		wantErr(t, "Post", b.Post(entry), api.ErrState)
		wantErr(t, "Would", b.Would(entry), api.ErrState)
		wantErr(t, "PostSince", b.PostSince(b.Count(), nil, entry), api.ErrState)
		wantErr(t, "PostSince", b.PostSince(-1, make([]api.Lot, 65), entry), api.ErrState)
	}
	for _, n := range []int{0, b.Count() - 1, b.Count(), -1} {
		wantErr(t, "Reverse", b.Reverse(n), api.ErrState)
	}
	wantDisk(t, "a broken book", d, was)
	wantBook(t, "a broken book", b, m)
	wantPast(t, "a broken book", b, m)
}

func TestExampleCrash(t *testing.T) {
	for keep, want := range map[int]int{0: 0, 65536: 1} {
		b, d := newBook(t)
		d.Arm(2)
		wantErr(t, "Post", b.Post(moves("outside store plank 7")), api.ErrDown)
		d.Restart(keep)
		wantInt(t, "Count", wantOpen(t, d).Count(), want)
	}
}

// TestEveryCrash takes the disk down in every act of a script, and keeps every number of bytes: promises K3 and K6.
func TestEveryCrash(t *testing.T) {
	for act := 1; act <= 2*len(script()); act++ {
		crashed := (act - 1) / 2 // an Append and a Sync for each entry
		for keep := -1; ; keep++ {
			b, d := newBook(t)
			d.Arm(act)
			for _, entry := range script()[:crashed] {
				post(t, b, entry)
			}
			before := stateOf(d)
			wantErr(t, "Post", b.Post(moves(script()[crashed])), api.ErrDown)
			if !d.Down() || d.Safe() != before.safe || before.safe != len(before.bytes) {
				t.Fatalf("act %d: the disk is %s, before it %s", act, stateOf(d).short(), before.short())
			}
			wantBroken(t, b, d, modelOf(script()[:crashed]...))
			unsafe := len(d.Bytes()) - d.Safe()
			d.Restart(keep)
			wantBroken(t, b, d, modelOf(script()[:crashed]...))
			there := crashed
			if keep >= unsafe {
				there++
			}
			wantGoesOn(t, d, there)
			if keep > unsafe {
				break
			}
		}
	}
}

// wantGoesOn opens a disk with the first entries of a script, and does the rest of it.
func wantGoesOn(t *testing.T, d *book.Disk, there int) {
	t.Helper()
	b := wantOpen(t, d)
	wantBook(t, "opened again", b, modelOf(script()[:there]...))
	wantInt(t, "Safe", d.Safe(), len(d.Bytes()))
	for _, entry := range script()[there:] {
		post(t, b, entry)
	}
	wantBook(t, "gone on", b, modelOf(script()...))
	wantBook(t, "opened at the end", wantOpen(t, d), modelOf(script()...))
}

// halfEntry returns a disk with entries and the beginning of one more.
func halfEntry(t *testing.T, entries ...string) *book.Disk {
	t.Helper()
	b, d := newBook(t, entries...)
	d.Arm(1)
	wantErr(t, "Post", b.Post(moves("outside store plank 5")), api.ErrDown)
	d.Restart(len(d.Bytes()) - d.Safe() - 1)
	return d
}

// TestActsOfOpen: one Cut if something is left over, and then one Sync if the disk has bytes.
func TestActsOfOpen(t *testing.T) {
	_, whole := newBook(t, script()...)
	for _, c := range []struct {
		name    string
		d       *book.Disk
		entries int
		acts    int
		hasCut  bool
	}{
		{"an empty disk", book.NewDisk(), 0, 0, false},
		{"a whole journal", whole, len(script()), 1, false},
		{"half an entry", halfEntry(t), 0, 1, true},
		{"an entry and a half", halfEntry(t, script()[0]), 1, 2, true},
	} {
		was := stateOf(c.d)
		for act := 1; act <= c.acts; act++ {
			d := c.d.Clone()
			d.Arm(act)
			b, err := book.Open(d)
			if b != nil || err != api.ErrDown || !d.Down() {
				t.Errorf("%s, act %d: error %d", c.name, act, err)
			}
			isCut := len(d.Bytes()) < len(was.bytes)
			if isCut != (c.hasCut && act > 1) {
				t.Errorf("%s, act %d: %d bytes of %d", c.name, act, len(d.Bytes()), len(was.bytes))
			}
			d.Restart(0)
			wantBook(t, c.name, wantOpen(t, d), modelOf(script()[:c.entries]...))
		}
		c.d.Arm(c.acts + 1)
		b := wantOpen(t, c.d)
		wantBook(t, c.name, b, modelOf(script()[:c.entries]...))
		wantErr(t, "the next act", c.d.Sync(), api.ErrDown)
		wantErr(t, "Post", b.Post(moves("outside store plank 1")), api.ErrDown)
		wantBroken(t, b, c.d, modelOf(script()[:c.entries]...))
	}
}

// TestUnsafeOpen: Open makes safe what it has read.
func TestUnsafeOpen(t *testing.T) {
	_, d := newBook(t, script()...)
	other := book.NewDisk()
	wantErr(t, "Append", other.Append(d.Bytes()), api.OK)
	wantBook(t, "an unsafe disk", wantOpen(t, other), modelOf(script()...))
	other.Restart(0)
	wantBook(t, "Restart", wantOpen(t, other), modelOf(script()...))
}

// TestActsOfPost: Reverse and PostSince break a book in the same acts as Post.
func TestActsOfPost(t *testing.T) {
	for act := 1; act <= 3; act++ {
		for _, call := range []func(*book.Book) api.Errno{
			func(b *book.Book) api.Errno { return b.Post(moves("store outside plank 5")) },
			func(b *book.Book) api.Errno { return b.Reverse(0) },
			func(b *book.Book) api.Errno { return b.PostSince(1, nil, moves("store outside plank 5")) },
		} {
			b, d := newBook(t, script()[0])
			d.Arm(act)
			if act == 3 {
				wantErr(t, "the call", call(b), api.OK)
				wantErr(t, "the third act", d.Sync(), api.ErrDown)
				continue
			}
			wantErr(t, "the call", call(b), api.ErrDown)
			wantBroken(t, b, d, modelOf(script()[0]))
			for keep, want := range map[int]int{0: 1, math.MaxInt: 2} {
				e := d.Clone()
				e.Restart(keep)
				wantInt(t, "Count", wantOpen(t, e).Count(), want)
			}
		}
	}
}

// TestWouldIsNoAct: neither Would nor a question touches the disk.
func TestWouldIsNoAct(t *testing.T) {
	b, d := newBook(t, script()...)
	was := stateOf(d)
	d.Arm(1)
	wantErr(t, "Would", b.Would(moves("outside store plank 1")), api.OK)
	wantBook(t, "armed", b, modelOf(script()...))
	wantPast(t, "armed", b, modelOf(script()...))
	wantDisk(t, "armed", d, was)
	wantErr(t, "the first act", d.Sync(), api.ErrDown)
}

// TestAnyCrashes lets disks go down again and again: promises P6 and K3.
func TestAnyCrashes(t *testing.T) {
	r := newRand()
	for range 80 {
		d, m := book.NewDisk(), modelOf()
		var doubtful [][]api.Move // the entry of which nobody knows whether it is there
		for range 20 {
			d.Arm(between(r, 0, 12))
			b, err := book.Open(d)
			if err == api.OK {
				m = wantOneOf(t, b, m, doubtful)
				doubtful = postAny(t, b, m, func() []api.Move { return anyEntry(r) })
			} else if b != nil || err != api.ErrDown {
				t.Fatalf("Open: error %d", err)
			}
			d.Restart(between(r, -1, 60))
		}
	}
}

// wantOneOf tests that a book has the entries of a model, and perhaps the doubtful one, and returns the model of it.
func wantOneOf(t *testing.T, b *book.Book, m *model, doubtful [][]api.Move) *model {
	t.Helper()
	more := &model{slices.Concat(m.entries, doubtful)}
	if b.Count() == len(more.entries) {
		m = more
	}
	wantBook(t, "opened again", b, m)
	return m
}

// postAny posts entries until the disk goes down, or long enough, and returns the one that was not acknowledged.
func postAny(t *testing.T, b *book.Book, m *model, next func() []api.Move) [][]api.Move {
	t.Helper()
	for range 10 {
		entry := next()
		want := m.would(entry)
		err := b.Post(entry)
		if err == api.ErrDown && want == api.OK {
			wantBook(t, "broken", b, m)
			return [][]api.Move{entry}
		}
		wantErr(t, "Post", err, want)
		if err == api.OK {
			m.add(entry)
		}
	}
	return nil
}

// TestDownBeneath: a book is broken when it finds that its disk is down.
func TestDownBeneath(t *testing.T) {
	b, d := newBook(t, script()[0])
	d.Arm(1)
	wantErr(t, "Sync", d.Sync(), api.ErrDown)
	was := stateOf(d)
	wantErr(t, "Would", b.Would(moves("outside store plank 1")), api.OK)
	wantErr(t, "Post", b.Post(moves("store bench plank 999")), api.ErrStock)
	if b.Broken() {
		t.Error("the book is broken before it did an act")
	}
	wantErr(t, "Post", b.Post(moves("outside store plank 1")), api.ErrDown)
	wantDisk(t, "Post", d, was)
	wantBroken(t, b, d, modelOf(script()[0]))
}
