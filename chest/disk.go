package chest

import (
	"slices"

	"pommel/api"
)

// Disk is a disk of pages.
type Disk struct {
	self   *Disk                            // the disk itself, if NewDisk or Clone returned it: a copy of its fields is no disk
	pages  [api.MaxPages][api.PageSize]byte // as they were written last
	synced [api.MaxPages][api.PageSize]byte // as they were when they were synced last
	down   bool
	left   int // how many acts from now on take the disk down; 0: it is not armed
	starts int // how often it was restarted or opened: the chests from before are closed
}

// NewDisk returns a new disk.
func NewDisk() *Disk {
	d := &Disk{}
	d.self = d
	return d
}

func (d *Disk) isDisk() bool {
	return d != nil && d.self == d
}

func isPage(page int) bool {
	return page >= 0 && page < api.MaxPages
}

// Write writes a page.
func (d *Disk) Write(page int, b []byte) api.Errno {
	switch {
	case !d.isDisk():
		return api.ErrState
	case !isPage(page) || len(b) > api.PageSize:
		return api.ErrArg
	case d.down:
		return api.ErrDown
	}
	n := copy(d.pages[page][:], b)
	clear(d.pages[page][n:])
	return d.act()
}

// Sync syncs all pages.
func (d *Disk) Sync() api.Errno {
	switch {
	case !d.isDisk():
		return api.ErrState
	case d.down:
		return api.ErrDown
	}
	if e := d.act(); e != api.OK {
		return e
	}
	d.synced = d.pages
	return api.OK
}

// act counts an act, and returns ErrDown if it takes the disk down.
func (d *Disk) act() api.Errno {
	if d.left == 0 {
		return api.OK
	}
	d.left--
	if d.left > 0 {
		return api.OK
	}
	d.down = true
	return api.ErrDown
}

// Read returns the bytes of a page.
func (d *Disk) Read(page int) []byte {
	if !d.isDisk() || !isPage(page) {
		return nil
	}
	return slices.Clone(d.pages[page][:])
}

// Arm lets the n-th act from now on take the disk down; if n is below 1, none does.
func (d *Disk) Arm(n int) {
	if d.isDisk() {
		d.left = max(n, 0)
	}
}

// Restart takes the disk up again; of each page that is not synced a beginning is kept as it was written last.
func (d *Disk) Restart(keep int) {
	if !d.isDisk() {
		return
	}
	keep = max(keep, 0) % (api.PageSize + 1)
	for page := range d.pages {
		copy(d.pages[page][keep:], d.synced[page][keep:])
	}
	d.synced = d.pages
	d.down, d.left = false, 0
	d.starts++
}

// Down reports whether the disk is down.
func (d *Disk) Down() bool {
	return d.isDisk() && d.down
}

// Clone returns a disk in the same state that is independent.
func (d *Disk) Clone() *Disk {
	if !d.isDisk() {
		return nil
	}
	clone := *d
	clone.self = &clone
	return &clone
}
