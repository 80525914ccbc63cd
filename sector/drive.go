package sector

import (
	"slices"
	"strings"

	"weighhouse/api"
)

const (
	maxSectors = 1 << 16
	maxName    = 16
	noFuse     = -1
)

// drive is what a disk is made of.
type drive struct {
	most  int
	files []*file // by their names, rising; each has a sector at least
	fuse  int     // below 0: none
	off   bool
}

// file is a name, and the sectors that go by it.
type file struct {
	name string
	sectors
}

// isName tells whether a file may have that name.
func isName(name string) bool {
	if len(name) < 1 || len(name) > maxName {
		return false
	}
	for i := range len(name) {
		if name[i] < 33 || name[i] > 126 {
			return false
		}
	}
	return true
}

// find answers where the file of that name stands, or would stand, and whether it
// is there.
func (d *drive) find(name string) (int, bool) {
	return slices.BinarySearchFunc(d.files, name, func(f *file, name string) int {
		return strings.Compare(f.name, name)
	})
}

// get answers the file of that name; if it is not there one without sectors,
// which the drive does not have before it is kept.
func (d *drive) get(name string) *file {
	at, there := d.find(name)
	if there {
		return d.files[at]
	}
	return &file{name: strings.Clone(name)}
}

// keep puts f among the files, if it is not there yet.
func (d *drive) keep(f *file) {
	if at, there := d.find(f.name); !there {
		d.files = slices.Insert(d.files, at, f)
	}
}

func (d *drive) used() int {
	n := 0
	for _, f := range d.files {
		n += f.count()
	}
	return n
}

// isFull tells whether there is no room for what a Write to that place of f would
// make new: a sector, or the file, too.
func (d *drive) isFull(f *file, at int) bool {
	newSector, newFile := at == f.count(), f.count() == 0
	return newSector && d.used() >= d.most || newFile && len(d.files) >= api.MaxFiles
}

// burn lets one operation be done, or the power go off in its place.
func (d *drive) burn() api.Errno {
	if d.fuse == 0 {
		d.off = true
		return api.ErrPower
	}
	if d.fuse > 0 {
		d.fuse--
	}
	return api.OK
}
