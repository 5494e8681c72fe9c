package base_test

import (
	"fmt"
	"slices"
	"testing"

	"interleaf/api"
	"interleaf/base"
	"interleaf/engine"
)

// drawn: numbers that look drawn, the same each time.
type drawn uint64

// below is one from 0 to below a bound.
func (d *drawn) below(bound int) int {
	*d = *d*6364136223846793005 + 1442695040888963407
	return int(uint64(*d>>33) % uint64(bound))
}

// modelDisk is what the document says of a disk: nothing of what is torn counts.
type modelDisk struct {
	commits [][]api.Write
	left    int // writes until the power is off; below 0: it stays on
}

// values are what all commits come to, by keys.
func (d *modelDisk) values() []api.Write {
	var l []api.Write
	for key := range api.MaxKeys {
		for _, c := range slices.Backward(d.commits) {
			if i := slices.IndexFunc(c, func(w api.Write) bool { return w.Key == key }); i >= 0 {
				l = append(l, c[i])
				break
			}
		}
	}
	return l
}

// modelBase is what the document says of a base, word by word, over an engine of its own.
type modelBase struct {
	d    *modelDisk
	e    *engine.Engine
	used int
	down bool
}

func modelOpen(t *testing.T, d *modelDisk) *modelBase {
	t.Helper()
	e, err := engine.Over(len(d.commits), d.values())
	if err != nil {
		t.Fatal(err)
	}
	return &modelBase{d: d, e: e, used: len(d.commits)}
}

func (m *modelBase) Commit(n int) error {
	if n < 1 || n > m.e.Txs() {
		return api.ErrMissing
	}
	l, _ := m.e.Writes(n)
	if err := m.e.Ready(n); err != nil || len(l) == 0 {
		return m.e.Commit(n)
	}
	if m.down {
		return api.ErrState
	}
	if m.used == 250 {
		return api.ErrLimit
	}
	if m.d.left == 0 {
		m.down = true
		return api.ErrDevice
	}
	m.d.left = max(-1, m.d.left-1)
	m.d.commits = append(m.d.commits, l)
	m.used++
	return m.e.Commit(n)
}

// pair is a base, and what the document says of it.
type pair struct {
	b *base.Base
	m *modelBase
}

// mayCommit says whether it has all that is written on its disk.
func (p pair) mayCommit() bool { return p.m.used == len(p.m.d.commits) }

// seen is all that may be seen of a base.
func seen(used int, down bool, e *engine.Engine) string {
	told := fmt.Sprintln(used, down, e.Last(), e.Many(), e.All(), e.History(), e.Txs())
	for n := range e.Txs() + 2 {
		state, why, err := e.State(n)
		l, other := e.Writes(n)
		told += fmt.Sprintln(n, state, why, err, l, other, e.Waits(n))
	}
	return told
}

// step is something that is asked of a base.
type step struct{ what, n, key, value int }

// drawStep is one, mostly of the latest transactions.
func drawStep(d *drawn, txs int) step {
	s := step{d.below(24), max(d.below(2), txs-d.below(4)), d.below(4), d.below(90)}
	if txs == 0 && s.what < 16 {
		s.what = 20
	}
	if d.below(60) == 0 {
		s.n = txs + 1
	}
	return s
}

// do asks a step of an engine and of its base's Commit, and tells what is told.
func do(e *engine.Engine, commit func(n int) error, s step) string {
	switch {
	case s.what < 2:
		value, err := e.Read(s.n, s.key)
		return fmt.Sprintln("Read", value, err)
	case s.what < 8:
		done, err := e.Write(s.n, s.key, s.value)
		return fmt.Sprintln("Write", done, err)
	case s.what < 14:
		return fmt.Sprintln("Commit", commit(s.n))
	case s.what == 14:
		return fmt.Sprintln("Abort", e.Abort(s.n))
	case s.what == 15:
		return fmt.Sprintln("Sweep", e.Sweep())
	}
	n, err := e.Begin(s.key % 3)
	return fmt.Sprintln("Begin", n, err)
}

// world is a disk, all bases that are open, the elder ones first, and what the document says of them.
type world struct {
	*testing.T
	d     *base.Disk
	m     *modelDisk
	bases []pair
}

func newWorld(t *testing.T) *world {
	t.Helper()
	w := &world{T: t, d: &base.Disk{}, m: &modelDisk{left: -1}}
	w.opens()
	return w
}

// opens opens one base more: it has what all commits come to.
func (w *world) opens() {
	w.Helper()
	b, err := base.Open(w.d)
	if err != nil {
		w.Fatalf("Open: %v", err)
	}
	p := pair{b, modelOpen(w.T, w.m)}
	w.bases = append(w.bases, p)
	w.holds("Open", p)
}

// holds holds a base against what the document says of it.
func (w *world) holds(what string, p pair) {
	w.Helper()
	got, want := seen(p.b.Used(), p.b.Down(), p.b.Engine()), seen(p.m.used, p.m.down, p.m.e)
	if got != want {
		w.Fatalf("%s: %s, not %s", what, got, want)
	}
}

// cuts sets the power.
func (w *world) cuts(writes int) {
	w.d.Cut(writes)
	w.m.left = max(-1, writes)
}

// asks does a step with one of the bases.
func (w *world) asks(d *drawn, p pair) {
	w.Helper()
	s := drawStep(d, p.m.e.Txs())
	what := fmt.Sprint("step ", s)
	switch {
	case s.what == 16:
		w.cuts(s.value%8 - 1)
	case s.what == 17:
		w.cuts(-1)
	case s.what == 18:
		p.b.Torn(s.value - 2)
	case s.what == 19:
		w.opens()
	case !p.mayCommit() && s.what >= 8 && s.what < 14:
		// The document says nothing of that.
	default:
		if got, want := do(p.b.Engine(), p.b.Commit, s), do(p.m.e, p.m.Commit, s); got != want {
			w.Fatalf("%s: %snot %s", what, got, want)
		}
	}
	w.holds(what, p)
}

// outlives opens the disk, and holds what is there against the commits that were told to be written.
func (w *world) outlives() {
	w.Helper()
	b, err := base.Open(w.d)
	if err != nil {
		w.Fatalf("Open: %v", err)
	}
	w.holds("Open", pair{b, modelOpen(w.T, w.m)})
}

func TestAgainstTheWordsOfTheDocument(t *testing.T) {
	d := drawn(3)
	for range 300 {
		w := newWorld(t)
		for range 40 + d.below(120) {
			p := w.bases[len(w.bases)-1]
			if d.below(4) == 0 { // an elder one
				p = w.bases[d.below(len(w.bases))]
			}
			w.asks(&d, p)
			w.outlives()
		}
	}
}

// The disk is filled, too.
func TestLongRunsAgainstTheWordsOfTheDocument(t *testing.T) {
	d := drawn(9)
	full := 0
	for range 3 {
		w := newWorld(t)
		for range 15000 {
			if p := w.bases[len(w.bases)-1]; p.b.Down() || p.m.e.Txs() == api.MaxTxs {
				w.cuts(-1)
				w.opens()
			}
			w.asks(&d, w.bases[len(w.bases)-1])
		}
		w.outlives()
		if len(w.m.commits) == api.MaxLog {
			full++
		}
	}
	if full == 0 {
		t.Error("no disk was filled")
	}
}

// Wherever the power goes off, whatever is torn, the disk has all of the commits ahead, and nothing of that one.
func TestAllOrNothing(t *testing.T) {
	d := drawn(21)
	var commits [][]api.Write
	for i := range 8 {
		var l []api.Write
		for key := range api.MaxKeys {
			if key == i || d.below(3) == 0 {
				l = append(l, api.Write{Key: key, Value: d.below(2*api.MaxNumber) - api.MaxNumber})
			}
		}
		commits = append(commits, l)
	}
	for off := range len(commits) {
		for torn := -1; torn < 110; torn++ {
			b := empty(t)
			b.d.Cut(off)
			b.b.Torn(torn)
			for _, l := range commits[:off] {
				b.commits(b.has(l...), api.OK)
			}
			b.commits(b.has(commits[off]...), api.ErrDevice)
			m := modelDisk{commits: commits[:off]}
			b.outlives(off, m.values()...)
			b.d.Cut(-1)
			b = b.outlives(off, m.values()...)
			for _, l := range commits[off:] {
				b.commits(b.has(l...), api.OK)
			}
			m.commits = commits
			b.outlives(len(commits), m.values()...)
		}
	}
}
