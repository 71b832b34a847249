package book_test

import (
	"math"
	"slices"
	"strings"
	"testing"

	"clavecin/api"
	"clavecin/book"
)

const most = 1 << 40 // the greatest balance

func TestExamples(t *testing.T) {
	b, _ := newBook(t, "outside store plank 5")
	wantInt(t, "Balance", b.Balance("store", "plank"), 5)
	wantInt(t, "Balance", b.Balance("outside", "plank"), -5)
	wantErr(t, "Post", b.Post(moves("store bench plank 6")), api.ErrStock)
	post(t, b, "store bench plank 6  outside store plank 2")
	wantBook(t, "the example", b, modelOf("outside store plank 5", "store bench plank 6  outside store plank 2"))
}

func TestOpenDown(t *testing.T) {
	_, whole := newBook(t, "outside store plank 5")
	for _, d := range []*book.Disk{book.NewDisk(), whole, halfEntry(t, "outside store plank 5")} {
		d.Arm(1)
		wantErr(t, "Sync", d.Sync(), api.ErrDown)
		was := stateOf(d)
		b, err := book.Open(d)
		if b != nil || err != api.ErrDown {
			t.Errorf("Open: error %d", err)
		}
		wantDisk(t, "Open", d, was)
	}
}

// TestNoBook is rule R1: a nil book, and one that Open and Clone did not return.
func TestNoBook(t *testing.T) {
	entry := moves("outside store plank 5")
	for _, b := range []*book.Book{nil, {}, new(book.Book)} {
		if !b.Broken() {
			t.Error("a book that is none is not broken")
		}
		for _, list := range [][]api.Move{entry, nil} {
			wantErr(t, "Post", b.Post(list), api.ErrState)
			wantErr(t, "Would", b.Would(list), api.ErrState)
			wantErr(t, "PostSince", b.PostSince(0, nil, list), api.ErrState)
			wantErr(t, "PostSince", b.PostSince(-1, make([]api.Lot, 65), list), api.ErrState)
		}
		for _, n := range []int{0, 1, -1, math.MinInt, math.MaxInt} {
			wantErr(t, "Reverse", b.Reverse(n), api.ErrState)
			past, err := b.At(n)
			wantList(t, "At", past, err, nil, api.ErrArg)
			list, err := b.Entry(n)
			wantList(t, "Entry", list, err, nil, api.ErrArg)
		}
		other, disk := b.Clone()
		if b.Count() != 0 || b.Lots() != nil || b.History("store", "plank") != nil || b.Balance("store", "plank") != 0 || other != nil || disk != nil {
			t.Error("a book that is none has something in it")
		}
	}
}

// refused is the errors of calls that must change nothing.
type refused struct {
	name string
	got  api.Errno
	want api.Errno
}

// wantRefused is promise K4: calls that are refused change nothing, on the disk as well, and are not acts.
func wantRefused(t *testing.T, b *book.Book, d *book.Disk, m *model, calls func() []refused) {
	t.Helper()
	was := stateOf(d)
	d.Arm(1)
	for _, c := range calls() {
		wantErr(t, c.name, c.got, c.want)
	}
	d.Arm(0)
	if b.Broken() {
		t.Error("the book is broken")
	}
	wantDisk(t, "refused", d, was)
	wantBook(t, "refused", b, m)
}

// badEntries returns what is no entry.
func badEntries() [][]api.Move {
	good := moves("outside store plank 5")[0]
	list := [][]api.Move{nil, {}, slices.Repeat([]api.Move{good}, 33), slices.Repeat([]api.Move{good}, 1000), {{}}}
	var bad []api.Move
	for _, name := range badNames() {
		bad = append(bad, api.Move{From: name, To: "store", Item: "plank", Qty: 5}, api.Move{From: "outside", To: name, Item: "plank", Qty: 5},
			api.Move{From: "outside", To: "store", Item: name, Qty: 5}, api.Move{From: name, To: name, Item: name, Qty: 5})
	}
	for _, n := range []int{0, -1, -5, 1000000001, math.MinInt, math.MaxInt} {
		bad = append(bad, api.Move{From: "outside", To: "store", Item: "plank", Qty: n})
	}
	bad = append(bad, api.Move{From: "store", To: "store", Item: "plank", Qty: 5}, api.Move{From: "out", To: "out", Item: "plank", Qty: 5})
	for _, m := range bad {
		list = append(list, []api.Move{m}, []api.Move{m, good}, []api.Move{good, good, m}, append(slices.Repeat([]api.Move{good}, 31), m))
	}
	return list
}

func badNames() []string {
	return []string{
		"", "A", "Z", "aB", "Ab", "9", "0a", "9out", "a-b", "a_b", "a b", " a", "a ", "a\n", "\n", "a\x00", "\x00", "a.", "a/", "a:", "a@", "a[", "a`", "a{", "`a", "{a",
		"é", "aé", "abcdefghijklm", "outsideoutside", "a234567890123", "a\xff", "\xff", strings.Repeat("a", 5000),
	}
}

func TestBadEntries(t *testing.T) {
	b, d := newBook(t, "outside store plank 5")
	for _, entry := range badEntries() {
		wantRefused(t, b, d, modelOf("outside store plank 5"), func() []refused {
			return []refused{
				{"Would", b.Would(entry), api.ErrArg},
				{"Post", b.Post(entry), api.ErrArg},
				{"PostSince", b.PostSince(1, nil, entry), api.ErrArg},
				{"PostSince", b.PostSince(0, lots("store plank 5"), entry), api.ErrArg}, // also stale
			}
		})
	}
}

func TestGoodEntries(t *testing.T) {
	for _, entry := range []string{
		"out a b 1", "outside store plank 1000000000", "out1 a1 b1 1", "outabcdefghi abcdefghijkl abcdefghijkl 7", "outz z0 z99999999999 3", "out outa b 1", "outa out b 1",
		"out a b 1  a out b 1", "a out b 1  out a b 1", "out a out 1", "out zzzzzzzzzzzz a23456789012 1",
		strings.Repeat("out a b 1000000000 ", 32),
		strings.Repeat("outabcdefghi abcdefghijkl abcdefghijkl 1000000000 ", 32),
	} {
		b, d := newBook(t)
		wantErr(t, "Would", b.Would(moves(entry)), api.OK)
		wantDisk(t, "Would", d, diskState{})
		post(t, b, entry)
		wantBook(t, entry, b, modelOf(entry))
		wantBook(t, entry+" opened again", wantOpen(t, d), modelOf(entry))
		other, _ := newBook(t)
		wantErr(t, "PostSince", other.PostSince(0, nil, moves(entry)), api.OK)
		wantBook(t, entry, other, modelOf(entry))
	}
}

// TestOutside: a name that begins with out, and no other one, is outside.
func TestOutside(t *testing.T) {
	b, _ := newBook(t)
	for account, want := range map[string]api.Errno{
		"out": api.OK, "outside": api.OK, "out0": api.OK, "outlet": api.OK, "outabcdefghi": api.OK,
		"o": api.ErrStock, "ou": api.ErrStock, "ou1t": api.ErrStock, "aout": api.ErrStock, "about": api.ErrStock, "inside": api.ErrStock, "store": api.ErrStock,
	} {
		wantErr(t, "Would from "+account, b.Would([]api.Move{{From: account, To: "bench", Item: "plank", Qty: 1}}), want)
	}
	// What the item is called does not matter.
	wantErr(t, "Would", b.Would(moves("store bench out 1")), api.ErrStock)
}

// TestStock: only the balances after all moves count.
func TestStock(t *testing.T) {
	b, d := newBook(t, "outside store plank 5  outside store wire 3")
	m := modelOf("outside store plank 5  outside store wire 3")
	for _, entry := range []string{
		"store bench plank 6", "store outside plank 6", "bench store plank 1", "store bench plank 5  store bench wire 4", "store bench wire 4  store bench plank 5",
		"store bench plank 3  store case plank 3", "store bench plank 5  bench case plank 6", "bench case plank 6  store bench plank 5", "store bench nail 1",
		"store bench plank 1000000000", "case bench plank 1  bench store plank 1",
	} {
		wantRefused(t, b, d, m, func() []refused {
			return []refused{{"Would", b.Would(moves(entry)), api.ErrStock}, {"Post", b.Post(moves(entry)), api.ErrStock}, {"PostSince", b.PostSince(1, nil, moves(entry)), api.ErrStock}}
		})
	}
	for _, entry := range []string{
		"store bench plank 6  outside store plank 1", "outside store plank 1  store bench plank 6", "case bench plank 9  outside case plank 9", "store outside plank 5  store bench wire 3",
		"store bench plank 5  bench store plank 5", "case bench nail 7  bench case nail 7", "store bench plank 5",
	} {
		other, _ := b.Clone()
		wantErr(t, "Would", other.Would(moves(entry)), api.OK)
		post(t, other, entry)
	}
}

// fill posts moves of an item until so many are moved.
func fill(t *testing.T, b *book.Book, from, to, item string, total int) {
	t.Helper()
	for total > 0 {
		var entry []api.Move
		for total > 0 && len(entry) < 32 {
			n := min(total, 1000000000)
			entry = append(entry, api.Move{From: from, To: to, Item: item, Qty: n})
			total -= n
		}
		wantErr(t, "Post", b.Post(entry), api.OK)
	}
}

// TestRange: a balance is -MaxQty to MaxQty after an entry.
func TestRange(t *testing.T) {
	b, d := newBook(t)
	fill(t, b, "outa", "a", "x", most-1)
	check := func(entry string, want api.Errno) {
		t.Helper()
		wantErr(t, "Would "+entry, b.Would(moves(entry)), want)
		was, count := stateOf(d), b.Count()
		other, disk := b.Clone()
		wantErr(t, "Post "+entry, other.Post(moves(entry)), want)
		if want == api.OK {
			wantInt(t, "Count", other.Count(), count+1)
			return
		}
		wantInt(t, "Count", other.Count(), count)
		wantDisk(t, entry, disk, was)
		wantList(t, "Lots", other.Lots(), api.OK, b.Lots(), api.OK)
	}
	check("outa a x 1", api.OK)
	check("outa a x 2", api.ErrRange)
	check("outb a x 2", api.ErrRange) // only a is above
	check("outb a x 1", api.OK)
	check("outa c x 2", api.ErrRange) // only outa is below
	check("outa c x 1", api.OK)
	check("outa c y 2", api.OK)                      // another item
	check("outa a x 2  a c x 1  c outa x 1", api.OK) // only the balances after all moves count
	check("outa a x 1  outa a x 1", api.ErrRange)
	check("outa a x 2  c b y 1", api.ErrRange) // ErrRange before ErrStock
	check("c b y 1  outa a x 2", api.ErrRange)
	check("c b x 1  outb a x 2", api.ErrRange)
	check("c a x 2", api.ErrRange)
	check("c a x 1", api.ErrStock)
	check("c b y 1", api.ErrStock)
	post(t, b, "outa a x 1")
	wantInt(t, "Balance", b.Balance("a", "x"), most)
	wantInt(t, "Balance", b.Balance("outa", "x"), -most)
	check("outb a x 1", api.ErrRange)
	check("outa b x 1", api.ErrRange)
	check("a outa x 1", api.OK)
	other := wantOpen(t, d)
	wantList(t, "Lots", other.Lots(), api.OK, lots("a x 1099511627776 outa x -1099511627776"), api.OK)
}

// TestReverseRange: what Post refuses Reverse refuses.
func TestReverseRange(t *testing.T) {
	b, d := newBook(t, "outb outa x 2", "outside store plank 5", "store bench plank 5")
	fill(t, b, "outc", "outb", "x", most)
	fill(t, b, "outd", "outb", "x", 1)
	was, count := stateOf(d), b.Count()
	wantErr(t, "Reverse", b.Reverse(0), api.ErrRange)
	wantErr(t, "Reverse", b.Reverse(1), api.ErrStock)
	wantInt(t, "Count", b.Count(), count)
	wantDisk(t, "Reverse", d, was)
	wantErr(t, "Reverse", b.Reverse(2), api.OK)
	wantErr(t, "Reverse", b.Reverse(1), api.OK)
}

// TestFull: a full disk refuses an entry without breaking the book.
func TestFull(t *testing.T) {
	b, d := newBook(t)
	large := moves(strings.Repeat("outabcdefghi abcdefghijkl abcdefghijkl 1 ", 32))
	for b.Post(large) == api.OK {
	}
	if n := 65536 / (64 * 33); b.Count() < n {
		t.Errorf("only %d large entries, want %d at least", b.Count(), n)
	}
	wantFull := func(entry []api.Move) {
		t.Helper()
		was, count, all := stateOf(d), b.Count(), b.Lots()
		d.Arm(1)
		wantErr(t, "Post", b.Post(entry), api.ErrFull)
		wantErr(t, "Would", b.Would(entry), api.OK)
		wantErr(t, "PostSince", b.PostSince(count, nil, entry), api.ErrFull)
		wantErr(t, "Post", b.Post(moves("a b c 1")), api.ErrStock)
		d.Arm(0)
		wantDisk(t, "ErrFull", d, was)
		if b.Broken() || b.Count() != count || !slices.Equal(b.Lots(), all) {
			t.Error("a full disk changed the book")
		}
	}
	wantFull(large)
	d.Arm(1)
	wantErr(t, "Reverse", b.Reverse(0), api.ErrFull)
	d.Arm(0)
	small := moves("outabcdefghi abcdefghijkl abcdefghijkl 1")
	for b.Post(small) == api.OK {
	}
	wantFull(small)
	if len(d.Bytes()) < 65536-128 {
		t.Errorf("only %d bytes", len(d.Bytes()))
	}
	count, all := b.Count(), b.Lots()
	for _, other := range []*book.Book{wantOpen(t, d), wantOpen(t, d.Clone())} {
		wantInt(t, "Count", other.Count(), count)
		wantList(t, "Lots", other.Lots(), api.OK, all, api.OK)
		wantErr(t, "Post", other.Post(small), api.ErrFull)
	}
}

// TestSize: an entry of m moves takes at most 64 * (m + 1) bytes.
func TestSize(t *testing.T) {
	b, d := newBook(t)
	for m := 1; m <= 32; m++ {
		for _, text := range []string{"outabcdefghi abcdefghijkl abcdefghijkl 1000000000 ", "out a b 1 "} {
			was := len(d.Bytes())
			post(t, b, strings.Repeat(text, m))
			if n := len(d.Bytes()) - was; n < 1 || n > 64*(m+1) {
				t.Errorf("an entry of %d moves takes %d bytes", m, n)
			}
			wantInt(t, "Safe", d.Safe(), len(d.Bytes()))
		}
	}
}

// TestLots: by Account and then by Item, in the order of their bytes, without those of 0.
func TestLots(t *testing.T) {
	b, _ := newBook(t)
	wantList(t, "Lots", b.Lots(), api.OK, nil, api.OK)
	post(t, b, "out b z 1  out b a 2  out a z 3  out a9 b 4  out aa b 5  out a a1 6  out a aa 7  out a a 8  out out1 a 9")
	wantList(t, "Lots", b.Lots(), api.OK, lots("a a 8 a a1 6 a aa 7 a z 3 a9 b 4 aa b 5 b a 2 b z 1 "+
		"out a -19 out a1 -6 out aa -7 out b -9 out z -4 out1 a 9"), api.OK)
	post(t, b, "a out a1 6  b out a 1  b out a 1  out1 out2 a 9")
	wantList(t, "Lots", b.Lots(), api.OK, lots("a a 8 a aa 7 a z 3 a9 b 4 aa b 5 b z 1 out a -17 out aa -7 out b -9 out z -4 out2 a 9"), api.OK)
	other, _ := newBook(t, "out a x 1", "a out x 1")
	wantList(t, "Lots", other.Lots(), api.OK, nil, api.OK)
	wantInt(t, "Balance", other.Balance("a", "x"), 0)
}

func TestBalance(t *testing.T) {
	b, _ := newBook(t, "outside store plank 5")
	for _, name := range append(badNames(), "plank", "outside", "nobody") {
		wantInt(t, "Balance", b.Balance("store", name), map[string]int{"plank": 5}[name])
		wantInt(t, "Balance", b.Balance(name, "plank"), map[string]int{"outside": -5}[name])
		wantInt(t, "Balance", b.Balance(name, name), 0)
		if name != "plank" {
			wantList(t, "History", b.History("store", name), api.OK, nil, api.OK)
		}
	}
	wantBook(t, "Balance", b, modelOf("outside store plank 5"))
}

func TestHistory(t *testing.T) {
	b, _ := newBook(t,
		"outside store plank 5", "outside bench plank 1", "outside store wire 7", "store bench plank 2  store bench plank 1", "store bench plank 1  bench store plank 1",
		"bench store plank 4  outside store nail 1", "store outside plank 6")
	for _, c := range []struct {
		account, item string
		want          []int
	}{
		{"store", "plank", []int{5, 2, 2, 6, 0}}, {"bench", "plank", []int{1, 4, 4, 0}}, {"outside", "plank", []int{-5, -6, 0}}, {"store", "wire", []int{7}},
		{"outside", "wire", []int{-7}}, {"bench", "wire", nil}, {"store", "nail", []int{1}}, {"plank", "store", nil}, {"store", "", nil}, {"", "plank", nil},
	} {
		wantList(t, "History", b.History(c.account, c.item), api.OK, c.want, api.OK)
	}
}

func TestAt(t *testing.T) {
	entries := []string{"outside store plank 5", "store bench plank 5", "outside store plank 1  store bench plank 1", "bench outside plank 6"}
	b, _ := newBook(t, entries...)
	for count, want := range []string{"", "outside plank -5 store plank 5", "bench plank 5 outside plank -5", "bench plank 6 outside plank -6", ""} {
		past, err := b.At(count)
		wantList(t, "At", past, err, lots(want), api.OK)
	}
	for _, n := range []int{-1, 5, math.MinInt, math.MaxInt} {
		past, err := b.At(n)
		wantList(t, "At", past, err, nil, api.ErrArg)
	}
	empty, _ := newBook(t)
	past, err := empty.At(0)
	wantList(t, "At", past, err, nil, api.OK)
	past, err = empty.At(1)
	wantList(t, "At", past, err, nil, api.ErrArg)
	wantPast(t, "At", b, modelOf(entries...))
}

func TestEntry(t *testing.T) {
	entries := []string{"outside store plank 5", "store bench plank 5  store bench plank 1  outside store plank 1"}
	b, d := newBook(t, entries...)
	for _, other := range []*book.Book{b, wantOpen(t, d)} {
		wantInt(t, "Count", other.Count(), 2)
		for i, want := range entries {
			list, err := other.Entry(i)
			wantList(t, "Entry", list, err, moves(want), api.OK)
		}
		for _, n := range []int{-1, 2, math.MinInt, math.MaxInt} {
			list, err := other.Entry(n)
			wantList(t, "Entry", list, err, nil, api.ErrArg)
		}
	}
}

func TestReverse(t *testing.T) {
	first, second := "outside store plank 5", "store bench plank 2  outside store wire 9  bench case plank 1"
	b, d := newBook(t, first, second)
	m := modelOf(first, second)
	for _, n := range []int{-1, 2, math.MinInt, math.MaxInt} {
		wantRefused(t, b, d, m, func() []refused { return []refused{{"Reverse", b.Reverse(n), api.ErrArg}} })
	}
	wantRefused(t, b, d, m, func() []refused { return []refused{{"Reverse", b.Reverse(0), api.ErrStock}} })
	wantErr(t, "Reverse", b.Reverse(1), api.OK)
	m.add(moves("case bench plank 1  store outside wire 9  bench store plank 2"))
	wantBook(t, "Reverse", b, m)
	wantErr(t, "Reverse", b.Reverse(0), api.OK)
	m.add(moves("store outside plank 5"))
	wantBook(t, "Reverse", b, m)
	wantList(t, "Lots", b.Lots(), api.OK, nil, api.OK)
	wantErr(t, "Reverse", b.Reverse(3), api.OK)
	m.add(moves(first))
	wantBook(t, "Reverse of what was reversed", b, m)
	wantBook(t, "opened again", wantOpen(t, d), m)
	empty, disk := newBook(t)
	wantRefused(t, empty, disk, modelOf(), func() []refused { return []refused{{"Reverse", empty.Reverse(0), api.ErrArg}} })
}

func TestClone(t *testing.T) {
	b, d := newBook(t, "outside store plank 5")
	d.Arm(5)
	c, e := b.Clone()
	wantDisk(t, "Clone", e, stateOf(d))
	m := modelOf("outside store plank 5")
	wantBook(t, "Clone", c, m)
	wantErr(t, "Post", c.Post(moves("store bench plank 3")), api.OK)
	wantErr(t, "Reverse", c.Reverse(0), api.ErrStock)
	wantBook(t, "the book", b, m)
	wantErr(t, "Post", b.Post(moves("store case plank 1")), api.OK)
	wantBook(t, "the book", b, modelOf("outside store plank 5", "store case plank 1"))
	wantBook(t, "Clone", c, modelOf("outside store plank 5", "store bench plank 3"))
	wantErr(t, "Post", c.Post(moves("outside bench plank 1")), api.OK) // acts 3 and 4
	wantErr(t, "Post", c.Post(moves("outside bench plank 1")), api.ErrDown)
	if b.Broken() || d.Down() || !c.Broken() || !e.Down() {
		t.Error("a clone's disk went down with the other one, or did not go down")
	}
	x, f := c.Clone()
	if !x.Broken() || !f.Down() {
		t.Error("a clone of a broken book is not broken")
	}
	wantErr(t, "Post", x.Post(moves("outside bench plank 1")), api.ErrState)
	wantBook(t, "Clone of a broken book", x, modelOf("outside store plank 5", "store bench plank 3", "outside bench plank 1"))
	f.Restart(0)
	if !x.Broken() || !e.Down() {
		t.Error("Restart of a clone's disk is seen elsewhere")
	}
	wantBook(t, "opened again", wantOpen(t, f), modelOf("outside store plank 5", "store bench plank 3", "outside bench plank 1"))
	wantBook(t, "opened again", wantOpen(t, d), modelOf("outside store plank 5", "store case plank 1"))
	empty, _ := newBook(t)
	none, disk := empty.Clone()
	wantBook(t, "Clone of an empty book", none, modelOf())
	wantDisk(t, "Clone of an empty book", disk, diskState{})
}

// TestAnyCalls compares a book with a second one: promises K1, K2, K4, K6 and K7.
func TestAnyCalls(t *testing.T) {
	r := newRand()
	for range 150 {
		b, d := newBook(t)
		m := modelOf()
		for range 30 {
			entry := anyEntry(r)
			want := m.would(entry)
			wantErr(t, "Would", b.Would(entry), want)
			switch n := r.Intn(8); {
			case n == 0 && len(m.entries) > 0:
				i := r.Intn(len(m.entries))
				entry = m.reversed(i)
				want = m.would(entry)
				wantErr(t, "Would", b.Would(entry), want)
				wantErr(t, "Reverse", b.Reverse(i), want)
			case n == 1:
				wantErr(t, "PostSince", b.PostSince(b.Count(), nil, entry), want)
			default:
				wantErr(t, "Post", b.Post(entry), want)
			}
			if want == api.OK {
				m.add(entry)
			}
			wantBook(t, "any calls", b, m)
			switch r.Intn(10) {
			case 0:
				b = wantOpen(t, d)
			case 1:
				b, d = b.Clone()
			}
		}
		wantPast(t, "any calls", b, m)
		wantBook(t, "opened again", wantOpen(t, d), m)
	}
}
