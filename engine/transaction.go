package engine

import (
	"maps"
	"slices"

	"interleaf/api"
)

// transaction is what the engine knows of one.
type transaction struct {
	number, level, start int
	state                int
	why                  api.Errno         // it is Gone by; OK: it is not, or by Abort
	begunAtEnd           int               // how many were begun when it was over
	wanted               api.Write         // what it asked last to write: that is it, if it waits
	values               map[int]int       // what it wrote, by the key
	reads                []api.Op          // those of the Store, in order
	seen                 [api.MaxKeys]bool // the keys of reads
	ahead, behind        map[int]struct{}  // the Strict ones that must be so, but for those that are Gone
}

// newTransaction is one that has done nothing yet.
func newTransaction(number, level, start int) *transaction {
	return &transaction{
		number: number,
		level:  level,
		start:  start,
		values: map[int]int{},
		ahead:  map[int]struct{}{},
		behind: map[int]struct{}{},
	}
}

// lives says whether one is not over.
func lives(t *transaction) bool { return t.state == api.Open || t.state == api.Waits }

// wasOver says whether one was over when another one was begun.
func (t *transaction) wasOver(other *transaction) bool {
	return !lives(t) && t.begunAtEnd < other.number
}

// noteRead notes a read of the Store, and who wrote what it found.
func (t *transaction) noteRead(key, from int) {
	t.reads = append(t.reads, api.Op{Tx: t.number, Key: key, From: from})
	t.seen[key] = true
}

// writes are what it wrote, by the keys.
func (t *transaction) writes() []api.Write {
	var l []api.Write
	for _, key := range slices.Sorted(maps.Keys(t.values)) {
		l = append(l, api.Write{Key: key, Value: t.values[key]})
	}
	return l
}

// isBetween says whether it is pushed and pulled: one must be ahead of it, and one behind.
func (t *transaction) isBetween() bool { return len(t.ahead) > 0 && len(t.behind) > 0 }

// putAhead notes that a Strict one must be ahead of another one, at the same time: false, if one of them is Committed, and between others by that.
func putAhead(one, other *transaction) bool {
	one.behind[other.number] = struct{}{}
	other.ahead[one.number] = struct{}{}
	return !isStuck(one) && !isStuck(other)
}

// isStuck says whether one is Committed, so that it cannot be undone, and could not be anywhere.
func isStuck(t *transaction) bool { return t.state == api.Committed && t.isBetween() }
