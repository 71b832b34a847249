package book

import (
	"slices"

	"clavecin/api"
)

// Disk is a disk that may go down.
type Disk struct {
	made  bool
	bytes []byte
	safe  int // how many of the first bytes
	down  bool
	fatal int // the number, from now on, of the act that takes the disk down; 0 if it is not armed
}

// NewDisk returns an empty disk.
func NewDisk() *Disk {
	return &Disk{made: true}
}

// isMade tells whether NewDisk or Clone returned the disk.
func (d *Disk) isMade() bool { return d != nil && d.made }

// Append writes bytes behind the others.
func (d *Disk) Append(b []byte) api.Errno {
	if err := d.check(); err != api.OK {
		return err
	}
	if len(b) > api.MaxDisk-len(d.bytes) {
		return api.ErrFull
	}
	d.bytes = append(d.bytes, b...)
	return d.countAct()
}

// Cut cuts bytes off.
func (d *Disk) Cut(n int) api.Errno {
	if err := d.check(); err != api.OK {
		return err
	}
	if !within(n, 0, len(d.bytes)) {
		return api.ErrArg
	}
	if err := d.countAct(); err != api.OK {
		return err
	}
	d.bytes = d.bytes[:n]
	d.safe = min(d.safe, n)
	return api.OK
}

// Sync makes all bytes safe.
func (d *Disk) Sync() api.Errno {
	if err := d.check(); err != api.OK {
		return err
	}
	if err := d.countAct(); err != api.OK {
		return err
	}
	d.safe = len(d.bytes)
	return api.OK
}

// check returns why the disk can do no act, if it cannot.
func (d *Disk) check() api.Errno {
	if !d.isMade() {
		return api.ErrState
	}
	if d.down {
		return api.ErrDown
	}
	return api.OK
}

// countAct counts an act, and takes the disk down if it is the one that the disk is armed for.
func (d *Disk) countAct() api.Errno {
	if d.fatal == 0 {
		return api.OK
	}
	d.fatal--
	if d.fatal > 0 {
		return api.OK
	}
	d.down = true
	return api.ErrDown
}

// Arm sets the act in which the disk goes down.
func (d *Disk) Arm(act int) {
	if d.check() == api.OK {
		d.fatal = max(act, 0)
	}
}

// Restart brings the disk up again.
func (d *Disk) Restart(keep int) {
	if !d.isMade() {
		return
	}
	kept := min(max(keep, 0), len(d.bytes)-d.safe)
	d.bytes = d.bytes[:d.safe+kept]
	d.safe = len(d.bytes)
	d.down = false
	d.fatal = 0
}

// Bytes returns all bytes.
func (d *Disk) Bytes() []byte {
	if !d.isMade() {
		return nil
	}
	return slices.Clone(d.bytes)
}

// Safe returns how many bytes are safe.
func (d *Disk) Safe() int {
	if !d.isMade() {
		return 0
	}
	return d.safe
}

// Down tells whether the disk is down.
func (d *Disk) Down() bool {
	return d.isMade() && d.down
}

// Clone returns a disk in the same state.
func (d *Disk) Clone() *Disk {
	if !d.isMade() {
		return nil
	}
	other := *d
	other.bytes = slices.Clone(d.bytes)
	return &other
}
