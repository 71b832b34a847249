package book_test

import (
	"bytes"
	"math/rand"
	"slices"
	"strconv"
	"strings"
	"testing"

	"clavecin/api"
	"clavecin/book"
)

// The signatures that the document lists.
var (
	_ func() *book.Disk                                         = book.NewDisk
	_ func(*book.Disk, []byte) api.Errno                        = (*book.Disk).Append
	_ func(*book.Disk, int) api.Errno                           = (*book.Disk).Cut
	_ func(*book.Disk) api.Errno                                = (*book.Disk).Sync
	_ func(*book.Disk, int)                                     = (*book.Disk).Arm
	_ func(*book.Disk, int)                                     = (*book.Disk).Restart
	_ func(*book.Disk) []byte                                   = (*book.Disk).Bytes
	_ func(*book.Disk) int                                      = (*book.Disk).Safe
	_ func(*book.Disk) bool                                     = (*book.Disk).Down
	_ func(*book.Disk) *book.Disk                               = (*book.Disk).Clone
	_ func(*book.Disk) (*book.Book, api.Errno)                  = book.Open
	_ func(*book.Book, []api.Move) api.Errno                    = (*book.Book).Post
	_ func(*book.Book, []api.Move) api.Errno                    = (*book.Book).Would
	_ func(*book.Book, int, []api.Lot, []api.Move) api.Errno    = (*book.Book).PostSince
	_ func(*book.Book, int) api.Errno                           = (*book.Book).Reverse
	_ func(_ *book.Book, account, item string) int              = (*book.Book).Balance
	_ func(*book.Book) []api.Lot                                = (*book.Book).Lots
	_ func(*book.Book, int) ([]api.Lot, api.Errno)              = (*book.Book).At
	_ func(*book.Book) int                                      = (*book.Book).Count
	_ func(*book.Book, int) ([]api.Move, api.Errno)             = (*book.Book).Entry
	_ func(*book.Book) bool                                     = (*book.Book).Broken
	_ func(*book.Book) (*book.Book, *book.Disk)                 = (*book.Book).Clone
	_ func(_ *book.Book, account, item string) (balances []int) = (*book.Book).History
)

func newRand() *rand.Rand { return rand.New(rand.NewSource(1)) }

// between returns a random number from low to high.
func between(r *rand.Rand, low, high int) int { return low + r.Intn(high-low+1) }

// moves returns the moves that a text stands for: four words each.
func moves(text string) []api.Move {
	var list []api.Move
	for words := strings.Fields(text); len(words) > 0; words = words[4:] {
		list = append(list, api.Move{From: words[0], To: words[1], Item: words[2], Qty: number(words[3])})
	}
	return list
}

// lots returns the lots that a text stands for: three words each.
func lots(text string) []api.Lot {
	var list []api.Lot
	for words := strings.Fields(text); len(words) > 0; words = words[3:] {
		list = append(list, api.Lot{Account: words[0], Item: words[1], Qty: number(words[2])})
	}
	return list
}

func number(word string) int {
	n, err := strconv.Atoi(word)
	if err != nil {
		panic(err)
	}
	return n
}

func wantErr(t *testing.T, name string, got, want api.Errno) {
	t.Helper()
	if got != want {
		t.Errorf("%s: error %d, want %d", name, got, want)
	}
}

func wantInt(t *testing.T, name string, got, want int) {
	t.Helper()
	if got != want {
		t.Errorf("%s: %d, want %d", name, got, want)
	}
}

func wantList[T comparable](t *testing.T, name string, got []T, err api.Errno, want []T, wantErr api.Errno) {
	t.Helper()
	if !slices.Equal(got, want) || err != wantErr {
		t.Errorf("%s: %v, error %d, want %v, error %d", name, got, err, want, wantErr)
	}
}

// wantOpen opens a book.
func wantOpen(t *testing.T, d *book.Disk) *book.Book {
	t.Helper()
	b, err := book.Open(d)
	if b == nil || err != api.OK {
		t.Fatalf("Open of %s: error %d", stateOf(d).short(), err)
	}
	return b
}

// newBook returns a book with entries, on a disk that is not armed.
func newBook(t *testing.T, entries ...string) (*book.Book, *book.Disk) {
	t.Helper()
	d := book.NewDisk()
	b := wantOpen(t, d)
	for _, entry := range entries {
		post(t, b, entry)
	}
	return b, d
}

// post posts an entry that is allowed.
func post(t *testing.T, b *book.Book, entry string) {
	t.Helper()
	if err := b.Post(moves(entry)); err != api.OK {
		t.Fatalf("Post(%s): error %d", entry, err)
	}
}

// diskState is all that a disk tells.
type diskState struct {
	bytes string
	safe  int
	down  bool
}

// short returns a state without the middle of its bytes.
func (s diskState) short() string {
	text := strconv.Quote(s.bytes)
	if len(text) > 400 {
		text = text[:200] + " .. " + text[len(text)-200:]
	}
	return text + ", " + strconv.Itoa(s.safe) + " safe, down " + strconv.FormatBool(s.down)
}

func stateOf(d *book.Disk) diskState {
	return diskState{string(d.Bytes()), d.Safe(), d.Down()}
}

// wantDisk tests what a disk tells.
func wantDisk(t *testing.T, name string, d *book.Disk, want diskState) {
	t.Helper()
	if got := stateOf(d); got != want {
		t.Fatalf("%s: the disk is %s, want %s", name, got.short(), want.short())
	}
}

// A model is a second book, which computes everything from its entries each time.
type model struct {
	entries [][]api.Move
}

func modelOf(entries ...string) *model {
	m := &model{}
	for _, entry := range entries {
		m.entries = append(m.entries, moves(entry))
	}
	return m
}

// inEach returns the balance after each entry that touches it.
func (m *model) inEach(account, item string) []int {
	var list []int
	balance := 0
	for _, entry := range m.entries {
		touched := false
		for _, x := range entry {
			if x.Item == item && x.From == account {
				balance -= x.Qty
				touched = true
			}
			if x.Item == item && x.To == account {
				balance += x.Qty
				touched = true
			}
		}
		if touched {
			list = append(list, balance)
		}
	}
	return list
}

func (m *model) balance(account, item string) int {
	if list := m.inEach(account, item); len(list) > 0 {
		return list[len(list)-1]
	}
	return 0
}

// words returns all accounts, or all items, in the order of their bytes.
func (m *model) words(of func(api.Move) []string) []string {
	var list []string
	for _, entry := range m.entries {
		for _, x := range entry {
			list = append(list, of(x)...)
		}
	}
	slices.SortFunc(list, func(a, b string) int { return bytes.Compare([]byte(a), []byte(b)) })
	return slices.Compact(list)
}

func (m *model) accounts() []string {
	return m.words(func(x api.Move) []string { return []string{x.From, x.To} })
}

func (m *model) items() []string {
	return m.words(func(x api.Move) []string { return []string{x.Item} })
}

func (m *model) lots() []api.Lot {
	var list []api.Lot
	for _, account := range m.accounts() {
		for _, item := range m.items() {
			if n := m.balance(account, item); n != 0 {
				list = append(list, api.Lot{Account: account, Item: item, Qty: n})
			}
		}
	}
	return list
}

// first returns a model of the first entries.
func (m *model) first(count int) *model { return &model{slices.Clone(m.entries[:count])} }

// would returns what Would returns for an entry of valid moves.
func (m *model) would(entry []api.Move) api.Errno {
	after := m.first(len(m.entries))
	after.add(entry)
	all := after.lots()
	if slices.ContainsFunc(all, func(l api.Lot) bool { return l.Qty > 1<<40 || l.Qty < -1<<40 }) {
		return api.ErrRange
	}
	if slices.ContainsFunc(all, func(l api.Lot) bool { return l.Qty < 0 && !strings.HasPrefix(l.Account, "out") }) {
		return api.ErrStock
	}
	return api.OK
}

func (m *model) add(entry []api.Move) { m.entries = append(m.entries, slices.Clone(entry)) }

func (m *model) reversed(i int) []api.Move {
	var list []api.Move
	for _, x := range m.entries[i] {
		list = append([]api.Move{{From: x.To, To: x.From, Item: x.Item, Qty: x.Qty}}, list...)
	}
	return list
}

// wantBook tests everything that a book tells, and promises K1 and K2 for it.
func wantBook(t *testing.T, name string, b *book.Book, m *model) {
	t.Helper()
	if !sameEntries(b, m) {
		t.Fatalf("%s: %d entries, want %v", name, b.Count(), m.entries)
	}
	all := b.Lots()
	wantList(t, name+": Lots", all, api.OK, m.lots(), api.OK)
	sums := map[string]int{}
	for _, l := range all {
		sums[l.Item] += l.Qty
		if l.Qty < 0 && !strings.HasPrefix(l.Account, "out") {
			t.Errorf("%s: %v is overdrawn", name, l)
		}
	}
	for item, sum := range sums {
		wantInt(t, name+": the sum of "+item, sum, 0)
	}
	for _, account := range append(m.accounts(), "nobody") {
		for _, item := range append(m.items(), "nothing") {
			wantInt(t, name+": Balance", b.Balance(account, item), m.balance(account, item))
			wantList(t, name+": History", b.History(account, item), api.OK, m.inEach(account, item), api.OK)
		}
	}
	if t.Failed() {
		t.Fatalf("%s: the entries are %v", name, m.entries)
	}
}

// wantPast tests what a book tells of the time after each entry.
func wantPast(t *testing.T, name string, b *book.Book, m *model) {
	t.Helper()
	for i := range len(m.entries) + 1 {
		past, err := b.At(i)
		wantList(t, name+": At", past, err, m.first(i).lots(), api.OK)
	}
}

func sameEntries(b *book.Book, m *model) bool {
	for i, want := range m.entries {
		got, err := b.Entry(i)
		if err != api.OK || !slices.Equal(got, want) {
			return false
		}
	}
	return b.Count() == len(m.entries)
}

// anyEntry returns an entry of a few moves between few accounts, which may not be allowed.
func anyEntry(r *rand.Rand) []api.Move {
	accounts := []string{"outside", "out", "store", "bench", "ou", "case9"}
	var list []api.Move
	for range between(r, 1, []int{1, 1, 3, 8}[r.Intn(4)]) {
		from, to := r.Intn(len(accounts)), r.Intn(len(accounts)-1)
		if r.Intn(2) == 0 {
			from = 0
		}
		if to >= from {
			to++
		}
		list = append(list, api.Move{From: accounts[from], To: accounts[to], Item: []string{"plank", "s0"}[r.Intn(2)], Qty: between(r, 1, 9)})
	}
	return list
}
