package book_test

import (
	"bytes"
	"math"
	"math/rand"
	"testing"

	"clavecin/api"
	"clavecin/book"
)

// newDisk returns a disk with bytes, of which some are safe.
func newDisk(t *testing.T, safe, rest string) *book.Disk {
	t.Helper()
	d := book.NewDisk()
	wantErr(t, "Append", d.Append([]byte(safe)), api.OK)
	wantErr(t, "Sync", d.Sync(), api.OK)
	wantErr(t, "Append", d.Append([]byte(rest)), api.OK)
	wantDisk(t, "newDisk", d, diskState{safe + rest, len(safe), false})
	return d
}

func TestDisk(t *testing.T) {
	d := book.NewDisk()
	wantDisk(t, "NewDisk", d, diskState{})
	wantErr(t, "Append", d.Append([]byte("abc")), api.OK)
	wantDisk(t, "Append", d, diskState{"abc", 0, false})
	wantErr(t, "Sync", d.Sync(), api.OK)
	wantDisk(t, "Sync", d, diskState{"abc", 3, false})
	wantErr(t, "Append", d.Append([]byte{'d', 0, 255}), api.OK)
	wantDisk(t, "Append", d, diskState{"abcd\x00\xff", 3, false})
	wantErr(t, "Cut", d.Cut(4), api.OK)
	wantDisk(t, "Cut behind the safe bytes", d, diskState{"abcd", 3, false})
	wantErr(t, "Cut", d.Cut(4), api.OK)
	wantDisk(t, "Cut of nothing", d, diskState{"abcd", 3, false})
	wantErr(t, "Cut", d.Cut(2), api.OK)
	wantDisk(t, "Cut before the safe bytes", d, diskState{"ab", 2, false})
	wantErr(t, "Append", d.Append([]byte("xyz")), api.OK)
	wantDisk(t, "Append", d, diskState{"abxyz", 2, false})
	wantErr(t, "Cut", d.Cut(0), api.OK)
	wantDisk(t, "Cut", d, diskState{})
	wantErr(t, "Sync", d.Sync(), api.OK)
	wantErr(t, "Append", d.Append(nil), api.OK)
	wantDisk(t, "Append of nothing", d, diskState{})
}

func TestBadCut(t *testing.T) {
	d := newDisk(t, "abc", "de")
	for _, n := range []int{-1, 6, math.MinInt, math.MaxInt} {
		wantErr(t, "Cut", d.Cut(n), api.ErrArg)
		wantDisk(t, "Cut", d, diskState{"abcde", 3, false})
	}
	wantErr(t, "Cut", book.NewDisk().Cut(1), api.ErrArg)
	wantErr(t, "Cut", book.NewDisk().Cut(0), api.OK)
}

func TestFullDisk(t *testing.T) {
	d := book.NewDisk()
	most := bytes.Repeat([]byte{'x'}, 65536)
	wantErr(t, "Append", d.Append(append(most, 'y')), api.ErrFull)
	wantErr(t, "Append", d.Append(most), api.OK)
	full := diskState{string(most), 0, false}
	wantDisk(t, "Append", d, full)
	wantErr(t, "Append", d.Append([]byte{'y'}), api.ErrFull)
	wantErr(t, "Append", d.Append(nil), api.OK)
	wantDisk(t, "Append", d, full)
	wantErr(t, "Cut", d.Cut(65535), api.OK)
	wantErr(t, "Append", d.Append([]byte("yz")), api.ErrFull)
	wantErr(t, "Append", d.Append([]byte{'z'}), api.OK)
	wantDisk(t, "Append", d, diskState{string(most[:65535]) + "z", 0, false})
}

// TestArm takes a disk down in an act of each kind.
func TestArm(t *testing.T) {
	for _, c := range []struct {
		name string
		act  func(*book.Disk) api.Errno
		want diskState
	}{
		{"Append", func(d *book.Disk) api.Errno { return d.Append([]byte("xy")) }, diskState{"abcdexy", 3, true}},
		{"Append of nothing", func(d *book.Disk) api.Errno { return d.Append(nil) }, diskState{"abcde", 3, true}},
		{"Cut", func(d *book.Disk) api.Errno { return d.Cut(1) }, diskState{"abcde", 3, true}},
		{"Sync", func(d *book.Disk) api.Errno { return d.Sync() }, diskState{"abcde", 3, true}},
	} {
		for ahead := range 4 {
			d := newDisk(t, "abc", "de")
			d.Arm(ahead + 1)
			for range ahead {
				wantErr(t, "Append", d.Append(nil), api.OK)
				wantDisk(t, "armed", d, diskState{"abcde", 3, false})
			}
			wantErr(t, c.name, c.act(d), api.ErrDown)
			wantDisk(t, c.name, d, c.want)
			wantAllDown(t, d)
		}
	}
}

// wantAllDown tests that a disk that is down does nothing, whatever the arguments are.
func wantAllDown(t *testing.T, d *book.Disk) {
	t.Helper()
	was := stateOf(d)
	for range 2 {
		wantErr(t, "Append", d.Append([]byte("q")), api.ErrDown)
		wantErr(t, "Append", d.Append(make([]byte, 65537)), api.ErrDown)
		wantErr(t, "Cut", d.Cut(1), api.ErrDown)
		wantErr(t, "Cut", d.Cut(-1), api.ErrDown)
		wantErr(t, "Sync", d.Sync(), api.ErrDown)
		d.Arm(1)
		d.Arm(0)
	}
	wantDisk(t, "down", d, was)
}

// TestNoActs: what returns another error is not an act.
func TestNoActs(t *testing.T) {
	d := newDisk(t, "abc", "de")
	d.Arm(2)
	for range 3 {
		wantErr(t, "Cut", d.Cut(-1), api.ErrArg)
		wantErr(t, "Cut", d.Cut(6), api.ErrArg)
		wantErr(t, "Append", d.Append(make([]byte, 65536)), api.ErrFull)
		d.Bytes()
		d.Safe()
		d.Down()
		d.Clone().Sync()
	}
	wantErr(t, "Sync", d.Sync(), api.OK)
	wantErr(t, "Cut", d.Cut(-1), api.ErrArg)
	wantErr(t, "Append", d.Append(make([]byte, 65536)), api.ErrFull)
	wantErr(t, "Sync", d.Sync(), api.ErrDown)
}

// TestArmAgain: Arm counts anew, and disarms below 1.
func TestArmAgain(t *testing.T) {
	d := book.NewDisk()
	d.Arm(2)
	wantErr(t, "Sync", d.Sync(), api.OK)
	d.Arm(2)
	wantErr(t, "Sync", d.Sync(), api.OK)
	for _, act := range []int{0, -1, math.MinInt} {
		d.Arm(1)
		d.Arm(act)
		for range 5 {
			wantErr(t, "Sync", d.Sync(), api.OK)
		}
	}
	d.Arm(math.MaxInt)
	for range 5 {
		wantErr(t, "Sync", d.Sync(), api.OK)
	}
	d.Arm(1)
	wantErr(t, "Sync", d.Sync(), api.ErrDown)
}

func TestRestart(t *testing.T) {
	for keep, want := range map[int]string{
		math.MinInt: "abc", -1: "abc", 0: "abc", 1: "abcd", 2: "abcde", 3: "abcdef", 4: "abcdef", 65536: "abcdef", math.MaxInt: "abcdef",
	} {
		for _, down := range []bool{false, true} {
			d := newDisk(t, "abc", "def")
			d.Arm(1)
			if down {
				wantErr(t, "Sync", d.Sync(), api.ErrDown)
				d.Arm(1)
			}
			d.Restart(keep)
			wantDisk(t, "Restart", d, diskState{want, len(want), false})
			wantErr(t, "Sync", d.Sync(), api.OK)
			wantErr(t, "Append", d.Append([]byte("ghi")), api.OK)
			wantDisk(t, "Append", d, diskState{want + "ghi", len(want), false})
		}
	}
}

func TestDiskClone(t *testing.T) {
	d := newDisk(t, "abc", "de")
	d.Arm(3)
	wantErr(t, "Sync", d.Sync(), api.OK)
	c := d.Clone()
	wantDisk(t, "Clone", c, diskState{"abcde", 5, false})
	wantErr(t, "Append", c.Append([]byte("x")), api.OK)
	wantErr(t, "Append", c.Append([]byte("y")), api.ErrDown)
	wantDisk(t, "the disk of which a clone went down", d, diskState{"abcde", 5, false})
	wantErr(t, "Cut", d.Cut(2), api.OK)
	wantErr(t, "Append", d.Append([]byte("zzz")), api.ErrDown)
	wantDisk(t, "the disk", d, diskState{"abzzz", 2, true})
	wantDisk(t, "the clone", c, diskState{"abcdexy", 5, true})
	e := c.Clone()
	wantDisk(t, "Clone of a disk that is down", e, diskState{"abcdexy", 5, true})
	wantAllDown(t, e)
	e.Restart(1)
	wantDisk(t, "Restart", e, diskState{"abcdex", 6, false})
	wantDisk(t, "the disk", c, diskState{"abcdexy", 5, true})
	wantDisk(t, "Clone of a new disk", book.NewDisk().Clone(), diskState{})
}

// TestNoDisk is rule R1: a nil disk, and one that NewDisk and Clone did not return.
func TestNoDisk(t *testing.T) {
	for _, d := range []*book.Disk{nil, {}, new(book.Disk)} {
		d.Arm(1)
		d.Restart(5)
		wantErr(t, "Append", d.Append([]byte("abc")), api.ErrState)
		wantErr(t, "Append", d.Append(make([]byte, 65537)), api.ErrState)
		wantErr(t, "Cut", d.Cut(0), api.ErrState)
		wantErr(t, "Cut", d.Cut(-1), api.ErrState)
		wantErr(t, "Sync", d.Sync(), api.ErrState)
		d.Restart(-1)
		if d.Bytes() != nil || d.Safe() != 0 || d.Down() || d.Clone() != nil {
			t.Errorf("Bytes %v, Safe %d, Down %t, Clone %v", d.Bytes(), d.Safe(), d.Down(), d.Clone())
		}
		b, err := book.Open(d)
		if b != nil || err != api.ErrArg {
			t.Errorf("Open: error %d", err)
		}
	}
}

// A modelDisk is a second disk, which knows of each byte whether it is safe.
type modelDisk struct {
	cells []cell
	down  bool
	acts  int // since Arm
	fatal int
}

type cell struct {
	value  byte
	isSafe bool
}

func (d *modelDisk) state() diskState {
	s := diskState{down: d.down}
	for _, c := range d.cells {
		s.bytes += string([]byte{c.value})
		if c.isSafe {
			s.safe++
		}
	}
	return s
}

// goesDown counts an act.
func (d *modelDisk) goesDown() bool {
	d.acts++
	d.down = d.acts == d.fatal
	return d.down
}

// step does the same with both disks and returns both errors.
func (d *modelDisk) step(r *rand.Rand, other *book.Disk) (api.Errno, api.Errno) {
	n := between(r, -1, len(d.cells)+1)
	kind := r.Intn(12)
	if d.down && kind < 10 {
		return []api.Errno{other.Append([]byte("x")), other.Cut(n), other.Sync()}[kind%3], api.ErrDown
	}
	switch {
	case kind < 4:
		text := make([]byte, between(r, 0, 5))
		r.Read(text)
		for _, value := range text {
			d.cells = append(d.cells, cell{value, false})
		}
		if d.goesDown() {
			return other.Append(text), api.ErrDown
		}
		return other.Append(text), api.OK
	case kind < 6 && (n < 0 || n > len(d.cells)):
		return other.Cut(n), api.ErrArg
	case kind < 6:
		if d.goesDown() {
			return other.Cut(n), api.ErrDown
		}
		d.cells = d.cells[:n]
		return other.Cut(n), api.OK
	case kind < 8:
		if d.goesDown() {
			return other.Sync(), api.ErrDown
		}
		for i := range d.cells {
			d.cells[i].isSafe = true
		}
		return other.Sync(), api.OK
	case kind < 10:
		d.acts, d.fatal = 0, between(r, -1, 8)
		other.Arm(d.fatal)
	default:
		other.Restart(n)
		d.restart(n)
	}
	return api.OK, api.OK
}

func (d *modelDisk) restart(keep int) {
	var kept []cell
	for _, c := range d.cells {
		if !c.isSafe {
			keep--
		}
		if c.isSafe || keep >= 0 {
			kept = append(kept, cell{c.value, true})
		}
	}
	*d = modelDisk{cells: kept}
}

// TestAnyActs compares a disk with a second one.
func TestAnyActs(t *testing.T) {
	r := newRand()
	for range 2000 {
		d, m := book.NewDisk(), &modelDisk{}
		for range 60 {
			got, want := m.step(r, d)
			wantErr(t, "an act", got, want)
			wantDisk(t, "an act", d, m.state())
			if r.Intn(10) == 0 {
				d = d.Clone()
			}
		}
	}
}
