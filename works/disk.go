package works

import "gherkin/api"

const (
	mostBytes = 80 // of a page
	noFuse    = -1
)

// A page has a text, and the text that was safe last.
type page struct{ text, safe string }

// Disk keeps pages over power losses.
type Disk struct {
	// self is the disk itself: a copy is not what NewDisk returned.
	self  *Disk
	pages []page
	off   bool
	// fuse is how many operations are done before the power goes off. Below 0 there is
	// no fuse.
	fuse int
}

// Write writes a page.
func (d *Disk) Write(page int, s string) api.Errno {
	if !d.made() {
		return api.ErrNil
	}
	if !d.has(page) || len(s) > mostBytes {
		return api.ErrArg
	}
	if !d.operate() {
		return api.ErrPower
	}
	d.pages[page].text = s
	return api.OK
}

// Sync makes all pages safe.
func (d *Disk) Sync() api.Errno {
	if !d.made() {
		return api.ErrNil
	}
	if !d.operate() {
		return api.ErrPower
	}
	d.makeSafe()
	return api.OK
}

// Read returns what a page has.
func (d *Disk) Read(page int) (string, api.Errno) {
	if !d.made() {
		return "", api.ErrNil
	}
	if !d.has(page) {
		return "", api.ErrArg
	}
	if d.off {
		return "", api.ErrPower
	}
	return d.pages[page].text, api.OK
}

// Fuse cuts the power after k more operations.
func (d *Disk) Fuse(k int) {
	if !d.made() || d.off {
		return
	}
	d.fuse = k
}

// Crash keeps some of the pages that are not safe, and turns the power on.
func (d *Disk) Crash(keep []int) {
	if !d.made() {
		return
	}
	kept := make([]bool, len(d.pages))
	for _, i := range keep {
		if d.has(i) {
			kept[i] = true
		}
	}
	for i := range d.pages {
		if !kept[i] {
			d.pages[i].text = d.pages[i].safe
		}
	}
	d.makeSafe()
	d.off = false
	d.fuse = noFuse
}

func (d *Disk) made() bool { return d != nil && d.self == d }

func (d *Disk) has(page int) bool { return page >= 0 && page < len(d.pages) }

func (d *Disk) makeSafe() {
	for i := range d.pages {
		d.pages[i].safe = d.pages[i].text
	}
}

// operate reports whether there is power for one more operation.
func (d *Disk) operate() bool {
	if d.fuse == 0 {
		d.off = true
	}
	if d.off {
		return false
	}
	if d.fuse > 0 {
		d.fuse--
	}
	return true
}
