package engine_test

import (
	"errors"
	"fmt"
	"slices"
	"testing"

	"interleaf/api"
	"interleaf/engine"
	"interleaf/order"
)

// drawn has numbers that look drawn, the same each time.
type drawn uint64

// below is the next one, from 0 to below a bound.
func (d *drawn) below(n int) int {
	*d = *d*6364136223846793005 + 1442695040888963407
	return int(uint64(*d>>33) % uint64(n))
}

// face is what an engine and the model of one have.
type face interface {
	Begin(level int) (int, error)
	Read(n, key int) (int, error)
	Write(n, key, value int) (bool, error)
	Commit(n int) error
	Abort(n int) error
	State(n int) (int, api.Errno, error)
	Ready(n int) error
	Writes(n int) ([]api.Write, error)
	Waits(n int) int
	Sweep() int
	History() []api.Op
	All() []api.Write
	Last() int
	Many() int
	Txs() int
}

// model does what the document says, word by word: nothing is kept but what happened.
type model struct {
	tick     int // how many things happened
	last     int
	versions []version
	txs      []*member   // by their numbers, from 1 on
	asked    []ask       // who holds (the first of a key), and who waits, in line
	twos     []api.Write // who must be ahead of whom, as it was said
	commits  []int       // as they were committed
}

type version struct{ at, key, value, tx int }

type ask struct{ tx, key, value int }

type member struct {
	level, start, state int
	why                 api.Errno
	begun, ended        int // by ticks
	wrote               []api.Write
	ops                 []api.Op
}

// modelOver is a model over values.
func modelOver(at int, l []api.Write) *model {
	m := &model{last: at}
	for _, w := range l {
		m.install(at, 0, w)
	}
	return m
}

func (m *model) install(at, tx int, w api.Write) {
	m.versions = slices.DeleteFunc(m.versions, func(v version) bool { return v.at == at && v.key == w.Key })
	m.versions = append(m.versions, version{at, w.Key, w.Value, tx})
}

func (x *member) isOver() bool { return x.state == api.Committed || x.state == api.Gone }

func (m *model) sameTime(a, b int) bool {
	one, other := m.txs[a-1], m.txs[b-1]
	return !(one.isOver() && one.ended < other.begun) && !(other.isOver() && other.ended < one.begun)
}

func (m *model) isStrict(n int) bool { return m.txs[n-1].level == api.Strict }

func (m *model) isPushed(n int) bool {
	return slices.ContainsFunc(m.twos, func(t api.Write) bool { return t.Key == n && m.txs[t.Value-1].state != api.Gone })
}

func (m *model) isPulled(n int) bool {
	return slices.ContainsFunc(m.twos, func(t api.Write) bool { return t.Value == n && m.txs[t.Key-1].state != api.Gone })
}

// ahead says that one must be ahead of another one: whether that is wrong.
func (m *model) ahead(one, other int) bool {
	if one == other || !m.isStrict(one) || !m.isStrict(other) || !m.sameTime(one, other) {
		return false
	}
	m.twos = append(m.twos, api.Write{Key: one, Value: other})
	for _, n := range []int{one, other} {
		if m.txs[n-1].state == api.Committed && m.isPushed(n) && m.isPulled(n) {
			return true
		}
	}
	return false
}

func (m *model) own(n, key int) (int, bool) {
	for _, w := range m.txs[n-1].wrote {
		if w.Key == key {
			return w.Value, true
		}
	}
	return 0, false
}

func (m *model) Begin(level int) (int, error) {
	alive := 0
	for _, x := range m.txs {
		if !x.isOver() {
			alive++
		}
	}
	switch {
	case level < 0 || level > 2:
		return 0, api.ErrArg
	case len(m.txs) == 200:
		return 0, api.ErrFull
	case alive == 6:
		return 0, api.ErrLimit
	}
	m.tick++
	m.txs = append(m.txs, &member{level: level, start: m.last, begun: m.tick})
	return len(m.txs), nil
}

func (m *model) isOpen(n int) error {
	if n < 1 || n > len(m.txs) {
		return api.ErrMissing
	}
	if m.txs[n-1].state != api.Open {
		return api.ErrState
	}
	return nil
}

func (m *model) Read(n, key int) (int, error) {
	if err := m.isOpen(n); err != nil {
		return 0, err
	}
	if value, ok := m.own(n, key); ok {
		return value, nil
	}
	if key < 0 || key > 9 {
		return 0, api.ErrRange
	}
	x := m.txs[n-1]
	as := x.start
	if x.level == api.Loose {
		as = m.last
	}
	var best version
	for _, v := range m.versions {
		if v.key == key && v.at <= as && v.at > best.at {
			best = v
		}
	}
	x.ops = append(x.ops, api.Op{Tx: n, Key: key, From: best.tx})
	for _, v := range m.versions { // they are in the order of their commits
		if v.key == key && v.at > x.start && m.ahead(n, v.tx) {
			m.gone(n, api.ErrFalse)
			return 0, api.ErrFalse
		}
	}
	for i, y := range m.txs {
		if _, ok := m.own(i+1, key); ok && !y.isOver() {
			m.ahead(n, i+1)
		}
	}
	if best.at == 0 {
		return 0, api.ErrNone
	}
	return best.value, nil
}

func (m *model) holder(key int) int {
	for _, a := range m.asked {
		if a.key == key {
			return a.tx
		}
	}
	return 0
}

func (m *model) Waits(n int) int {
	for _, a := range m.asked {
		if h := m.holder(a.key); a.tx == n && h != n {
			return h
		}
	}
	return 0
}

func (m *model) Write(n, key, value int) (bool, error) {
	if err := m.isOpen(n); err != nil {
		return false, err
	}
	if key < 0 || key > 9 {
		return false, api.ErrRange
	}
	if value < -(1<<40) || value > 1<<40 {
		return false, api.ErrArg
	}
	for h := m.holder(key); h != n && h != 0; {
		if h = m.Waits(h); h == n {
			m.gone(n, api.ErrCycle)
			return false, api.ErrCycle
		}
	}
	if h := m.holder(key); h != n {
		m.asked = append(m.asked, ask{n, key, value})
		if h != 0 {
			m.txs[n-1].state = api.Waits
			return false, nil
		}
	}
	if err := m.writes(n, key, value); err != nil {
		return false, err
	}
	return true, nil
}

func (m *model) writes(n, key, value int) error {
	x := m.txs[n-1]
	for _, v := range m.versions {
		if x.level != api.Loose && v.key == key && v.at > x.start {
			m.gone(n, api.ErrOrder)
			return api.ErrOrder
		}
	}
	x.wrote = slices.DeleteFunc(x.wrote, func(w api.Write) bool { return w.Key == key })
	x.wrote = append(x.wrote, api.Write{Key: key, Value: value})
	slices.SortFunc(x.wrote, func(a, b api.Write) int { return a.Key - b.Key })
	for i, y := range m.txs {
		hasRead := slices.ContainsFunc(y.ops, func(o api.Op) bool { return o.Key == key })
		if hasRead && m.ahead(i+1, n) {
			m.gone(n, api.ErrFalse)
			return api.ErrFalse
		}
	}
	return nil
}

func (m *model) Ready(n int) error {
	if err := m.isOpen(n); err != nil {
		return err
	}
	if m.isPushed(n) && m.isPulled(n) {
		return api.ErrFalse
	}
	return nil
}

func (m *model) Commit(n int) error {
	if err := m.Ready(n); err != nil {
		if errors.Is(err, api.ErrFalse) {
			m.gone(n, api.ErrFalse)
		}
		return err
	}
	x := m.txs[n-1]
	if len(x.wrote) > 0 && m.last < 1<<40 { // above that Install does nothing
		m.last++
		for _, w := range x.wrote {
			m.install(m.last, n, w)
		}
	}
	m.commits = append(m.commits, n)
	m.over(n, api.Committed)
	return nil
}

func (m *model) Abort(n int) error {
	if n < 1 || n > len(m.txs) {
		return api.ErrMissing
	}
	if m.txs[n-1].isOver() {
		return api.ErrState
	}
	m.gone(n, api.OK)
	return nil
}

func (m *model) gone(n int, why api.Errno) {
	m.txs[n-1].why = why
	m.over(n, api.Gone)
}

func (m *model) over(n, state int) {
	m.tick++
	m.txs[n-1].state, m.txs[n-1].ended = state, m.tick
	var held []int
	for key := range 10 {
		if m.holder(key) == n {
			held = append(held, key)
		}
	}
	m.asked = slices.DeleteFunc(m.asked, func(a ask) bool { return a.tx == n })
	var next []ask
	for _, a := range m.asked {
		if slices.Contains(held, a.key) && m.holder(a.key) == a.tx {
			next = append(next, a)
		}
	}
	slices.SortFunc(next, func(a, b ask) int { return a.key - b.key })
	for _, a := range next {
		m.txs[a.tx-1].state = api.Open
		m.writes(a.tx, a.key, a.value)
	}
}

func (m *model) State(n int) (int, api.Errno, error) {
	if n < 1 || n > len(m.txs) {
		return 0, 0, api.ErrMissing
	}
	return m.txs[n-1].state, m.txs[n-1].why, nil
}

func (m *model) Writes(n int) ([]api.Write, error) {
	if n < 1 || n > len(m.txs) {
		return nil, api.ErrMissing
	}
	return m.txs[n-1].wrote, nil
}

func (m *model) Sweep() int {
	least := m.last
	for _, x := range m.txs {
		if !x.isOver() && x.level != api.Loose {
			least = min(least, x.start)
		}
	}
	before := len(m.versions)
	all := slices.Clone(m.versions)
	m.versions = slices.DeleteFunc(m.versions, func(v version) bool {
		return slices.ContainsFunc(all, func(later version) bool {
			return later.key == v.key && later.at > v.at && later.at <= least
		})
	})
	return before - len(m.versions)
}

func (m *model) History() []api.Op {
	var ops []api.Op
	for _, n := range m.commits {
		ops = append(ops, m.txs[n-1].ops...)
		for _, w := range m.txs[n-1].wrote {
			ops = append(ops, api.Op{Tx: n, Key: w.Key, Write: true})
		}
	}
	return ops
}

func (m *model) All() []api.Write {
	var all []api.Write
	for key := range 10 {
		var best version
		for _, v := range m.versions {
			if v.key == key && v.at > best.at {
				best = v
			}
		}
		if best.at > 0 {
			all = append(all, api.Write{Key: key, Value: best.value})
		}
	}
	return all
}

func (m *model) Last() int { return m.last }

func (m *model) Many() int { return len(m.versions) }

func (m *model) Txs() int { return len(m.txs) }

// step is something that is asked of an engine.
type step struct{ what, n, key, value int }

// drawStep is one for an engine, mostly right, and mostly of those that are not over; levels are drawn below a bound, from a least one on.
func drawStep(d *drawn, e *engine.Engine, keys, least, bound int) step {
	s := step{what: d.below(22), n: drawOne(d, e), key: d.below(keys), value: d.below(9)}
	if e.Txs() == 0 || d.below(6) == 0 {
		s.what = 22
	}
	if s.what == 22 {
		s.value = least + d.below(bound)
	}
	switch d.below(90) {
	case 0:
		s.key = api.MaxKeys - d.below(2)*(api.MaxKeys+1)
	case 1:
		s.value = (api.MaxNumber + d.below(2)) * (2*d.below(2) - 1)
	}
	return s
}

// drawOne is a transaction's number, or nearly one.
func drawOne(d *drawn, e *engine.Engine) int {
	var alive []int
	for n := 1; n <= e.Txs(); n++ {
		if s, _, _ := e.State(n); s == api.Open || s == api.Waits {
			alive = append(alive, n)
		}
	}
	if len(alive) == 0 || d.below(12) == 0 {
		return d.below(e.Txs() + 2)
	}
	return alive[d.below(len(alive))]
}

// do asks a step, and tells all that is told.
func do(f face, s step) string {
	var told string
	switch {
	case s.what == 22:
		n, err := f.Begin(s.value)
		told = fmt.Sprintln("Begin", n, err)
	case s.what < 9:
		value, err := f.Read(s.n, s.key)
		told = fmt.Sprintln("Read", value, err)
	case s.what < 18:
		done, err := f.Write(s.n, s.key, s.value)
		told = fmt.Sprintln("Write", done, err)
	case s.what < 20:
		told = fmt.Sprintln("Ready", f.Ready(s.n))
		told += fmt.Sprintln("Commit", f.Commit(s.n))
	case s.what == 20:
		told = fmt.Sprintln("Abort", f.Abort(s.n))
	}
	return told
}

// seen is all that may be seen of an engine, but for how many versions there are.
func seen(f face) string {
	told := fmt.Sprintln(f.Last(), f.All(), f.History(), f.Txs())
	for n := range f.Txs() + 2 {
		state, why, err := f.State(n)
		l, other := f.Writes(n)
		told += fmt.Sprintln(n, state, why, err, l, other, f.Waits(n))
	}
	return told
}

func TestAgainstTheWordsOfTheDocument(t *testing.T) {
	d := drawn(7)
	for round := range 900 {
		var l []api.Write
		at := d.below(3)
		for range at * d.below(3) {
			l = append(l, api.Write{Key: d.below(5), Value: d.below(9)})
		}
		if d.below(4) == 0 {
			at = api.MaxNumber - d.below(5)
		}
		e, err := engine.Over(at, l)
		if err != nil {
			t.Fatalf("Over(%d, %v): %v", at, l, err)
		}
		m := modelOver(at, l)
		keys, least := 1+d.below(5), max(0, d.below(5)-2)
		for range 20 + d.below(90) {
			s := drawStep(&d, e, keys, least, 3-least)
			if got, want := do(e, s), do(m, s); got != want {
				t.Fatalf("round %d, %v: %snot %s", round, s, got, want)
			}
			if s.what == 21 {
				if got, want := e.Sweep(), m.Sweep(); got != want {
					t.Fatalf("round %d: Sweep: %d, not %d", round, got, want)
				}
			}
			if got, want := seen(e), seen(m); got != want || e.Many() != m.Many() {
				t.Fatalf("round %d, %v: Many %d\n%s, not %d\n%s", round, s, e.Many(), got, m.Many(), want)
			}
		}
	}
}

func TestSweepingIsNotSeen(t *testing.T) {
	d := drawn(11)
	swept := 0
	for round := range 150 {
		one, other := engine.New(), engine.New()
		for range 150 {
			s := drawStep(&d, one, 3, 0, 3)
			if got, want := do(one, s), do(other, s); got != want {
				t.Fatalf("round %d, %v: %snot %s", round, s, got, want)
			}
			swept += one.Sweep()
			if got, want := seen(one), seen(other); got != want {
				t.Fatalf("round %d, %v: %s, not %s", round, s, got, want)
			}
		}
	}
	if swept == 0 {
		t.Error("nothing was swept")
	}
}

func TestAsIfOneBehindTheOther(t *testing.T) {
	d := drawn(5)
	moved := 0
	for round := range 600 {
		e := engine.New()
		keys := 2 + d.below(4)
		for range 200 {
			do(e, drawStep(&d, e, keys, api.Strict, 1))
		}
		ops := e.History()
		line, err := order.Line(ops)
		if err != nil {
			t.Fatalf("round %d: %v has no line: %v", round, ops, err)
		}
		if !slices.IsSorted(line) {
			moved++
		}
		replay(t, ops, line)
	}
	if moved == 0 {
		t.Error("no line was another one than that of the beginnings")
	}
}

// replay puts ops into a line, and holds what each one reads there against what it read.
func replay(t *testing.T, ops []api.Op, line []int) {
	t.Helper()
	var wrote [api.MaxKeys]int
	for _, n := range line {
		for _, o := range ops {
			switch {
			case o.Tx != n:
			case o.Write:
				wrote[o.Key] = n
			case o.From != wrote[o.Key]:
				t.Fatalf("%v in the line %v: %v, but %d wrote that", ops, line, o, wrote[o.Key])
			}
		}
	}
}

func TestSteadyOnesSeeOneMoment(t *testing.T) {
	d := drawn(13)
	checked := 0
	for round := range 300 {
		e := engine.New()
		begun := map[int]map[int]int{} // by the number: what was committed then, by keys
		level := map[int]int{}
		for range 150 {
			s := drawStep(&d, e, 3, 0, 3)
			own := map[int]int{}
			if l, err := e.Writes(s.n); err == nil {
				for _, w := range l {
					own[w.Key] = w.Value
				}
			}
			if s.what == 21 {
				e.Sweep()
				continue
			}
			before := e.Txs()
			if s.what < 9 && level[s.n] != api.Loose {
				value, err := e.Read(s.n, s.key)
				want, ok := own[s.key]
				if !ok {
					want, ok = begun[s.n][s.key]
				}
				if e := api.Tell(err); e == api.OK && (!ok || value != want) || e == api.ErrNone && ok {
					t.Fatalf("round %d: Read(%d, %d): %d, %v, not %d, %v", round, s.n, s.key, value, err, want, ok)
				}
				checked++
				continue
			}
			do(e, s)
			if e.Txs() > before {
				begun[e.Txs()], level[e.Txs()] = map[int]int{}, s.value
				for _, w := range e.All() {
					begun[e.Txs()][w.Key] = w.Value
				}
			}
		}
	}
	if checked == 0 {
		t.Error("nothing was read")
	}
}

func TestNoTwoAtTheSameTimeWroteTheSameKey(t *testing.T) {
	d := drawn(17)
	for round := range 300 {
		e := engine.New()
		var begun, over [api.MaxTxs + 1]int // by steps
		for i := range 150 {
			do(e, drawStep(&d, e, 3, api.Steady, 2))
			for n := 1; n <= e.Txs(); n++ {
				if begun[n] == 0 {
					begun[n] = i + 1
				}
				if s, _, _ := e.State(n); s == api.Committed && over[n] == 0 {
					over[n] = i + 1
				}
			}
		}
		for a := 1; a <= e.Txs(); a++ {
			for b := a + 1; b <= e.Txs(); b++ {
				if over[a] > 0 && over[b] > 0 && begun[b] < over[a] && bothWrote(e, a, b) {
					t.Fatalf("round %d: %d and %d wrote the same key at the same time", round, a, b)
				}
			}
		}
	}
}

// bothWrote says whether two wrote the same key.
func bothWrote(e *engine.Engine, a, b int) bool {
	one, _ := e.Writes(a)
	other, _ := e.Writes(b)
	return slices.ContainsFunc(one, func(w api.Write) bool {
		return slices.ContainsFunc(other, func(v api.Write) bool { return v.Key == w.Key })
	})
}

func TestSomebodyIsOpen(t *testing.T) {
	d := drawn(19)
	waited := 0
	for round := range 300 {
		e := engine.New()
		for range 120 {
			s := drawStep(&d, e, 3, 0, 3)
			if s.what < 20 {
				s.what = 9 + s.what%9 // writing is what lets them wait
			}
			do(e, s)
			var open, waits int
			for n := 1; n <= e.Txs(); n++ {
				switch s, _, _ := e.State(n); s {
				case api.Open:
					open++
				case api.Waits:
					waits++
				}
			}
			if waited += waits; waits > 0 && open == 0 {
				t.Fatalf("round %d: all that are not over wait", round)
			}
		}
	}
	if waited == 0 {
		t.Error("nobody waited")
	}
}
