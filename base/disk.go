package base

import (
	"slices"

	"interleaf/api"
)

// Disk has MaxLog places, all empty at first. Its zero value is one.
type Disk struct {
	places [api.MaxLog][]byte // a commit each, from the first one on; behind these perhaps a torn one
	cut    bool               // the power goes off, or is off
	left   int                // behind so many writes more, if cut
}

// Cut lets the power go off behind so many places more that are written (below 0: it stays on).
func (d *Disk) Cut(writes int) { d.cut, d.left = writes >= 0, writes }

// write lets a place have a commit's bytes: whether there is power for that; else torn of them are there, but never the last one.
func (d *Disk) write(place int, l []byte, torn int) bool {
	power := !d.cut || d.left > 0
	if !power {
		l = l[:min(torn, len(l)-1)]
	} else if d.cut {
		d.left--
	}
	// What an earlier torn one left there is gone: two of them never make a whole one.
	d.places[place] = slices.Clone(l)
	return power
}

// isWritten says whether a place has a whole commit.
func (d *Disk) isWritten(place int) bool { return isWhole(d.places[place]) }

// written is how many commits were written, and what they wrote, one behind the other.
func (d *Disk) written() (int, []api.Write) {
	var all []api.Write
	for i, l := range d.places {
		if !d.isWritten(i) {
			return i, all
		}
		all = append(all, writesOf(l)...)
	}
	return len(d.places), all
}
