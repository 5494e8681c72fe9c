package lock_test

import (
	"fmt"
	"math"
	"slices"
	"testing"

	"interleaf/api"
	"interleaf/lock"
	"interleaf/plain"
)

// nowhere is the place of an error that has none.
const nowhere = -1

// gets asks for a key that is to be had.
func gets(t *testing.T, l *lock.Table, tx, key int) {
	t.Helper()
	if ok, err := l.Ask(tx, key); !ok || err != nil {
		t.Errorf("Ask(%d, %d): %v, %v, not true", tx, key, ok, err)
	}
}

// queues asks for a key that is to be waited for.
func queues(t *testing.T, l *lock.Table, tx, key int) {
	t.Helper()
	if ok, err := l.Ask(tx, key); ok || err != nil {
		t.Errorf("Ask(%d, %d): %v, %v, not false", tx, key, ok, err)
	}
}

// fails asks for a key that may not be asked for: nothing is changed by that.
func fails(t *testing.T, l *lock.Table, tx, key int, want api.Errno) {
	t.Helper()
	before := seen(l)
	ok, err := l.Ask(tx, key)
	if e, place := plain.Place(err); ok || e != want || place != nowhere {
		t.Errorf("Ask(%d, %d): %v, error %d at %d, not %d", tx, key, ok, e, place, want)
	}
	if after := seen(l); after != before {
		t.Errorf("Ask(%d, %d): %s, not %s as before", tx, key, after, before)
	}
}

// drops lets one go, and holds against it who holds what by that.
func drops(t *testing.T, l *lock.Table, tx int, want ...api.Write) {
	t.Helper()
	if next := l.Drop(tx); !slices.Equal(next, want) {
		t.Errorf("Drop(%d): %v, not %v", tx, next, want)
	}
}

// stands holds who holds a key, and who waits for it, against what it must be.
func stands(t *testing.T, l *lock.Table, key, holder int, line ...int) {
	t.Helper()
	if l.Holds(key) != holder {
		t.Errorf("Holds(%d): %d, not %d", key, l.Holds(key), holder)
	}
	if got := l.Line(key); !slices.Equal(got, line) {
		t.Errorf("Line(%d): %v, not %v", key, got, line)
	}
	for _, tx := range line {
		waits(t, l, tx, key)
	}
}

// waits holds the key that one waits for against what it must be.
func waits(t *testing.T, l *lock.Table, tx, key int) {
	t.Helper()
	if got := l.Waits(tx); got != key {
		t.Errorf("Waits(%d): %d, not %d", tx, got, key)
	}
}

// most is the greatest number of those that ask, in the tests that ask at random.
const most = 9

// seen is all that a table tells.
func seen(l *lock.Table) string {
	text := ""
	for key := range api.MaxKeys {
		text += fmt.Sprint(l.Holds(key), l.Line(key), ";")
	}
	for tx := range most + 1 {
		text += fmt.Sprint(l.Waits(tx), ";")
	}
	return text
}

// empty is what an empty table tells.
func empty() string {
	var l lock.Table
	return seen(&l)
}

// 2.1: a zero value.

func TestZeroValueHasNobody(t *testing.T) {
	var l lock.Table
	for key := range api.MaxKeys {
		stands(t, &l, key, 0)
	}
	for _, tx := range []int{math.MinInt, -1, 0, 1, 2, math.MaxInt} {
		waits(t, &l, tx, -1)
		drops(t, &l, tx)
	}
	stands(t, &l, 0, 0)
}

// 2.1: Ask.

func TestAskOfAFreeKeyHoldsIt(t *testing.T) {
	var l lock.Table
	gets(t, &l, 1, 0)
	gets(t, &l, 1, api.MaxKeys-1)
	gets(t, &l, math.MaxInt, 5)
	stands(t, &l, 0, 1)
	stands(t, &l, api.MaxKeys-1, 1)
	stands(t, &l, 5, math.MaxInt)
	stands(t, &l, 4, 0)
	waits(t, &l, 1, -1)
	waits(t, &l, math.MaxInt, -1)
}

func TestAskAgainHoldsAsBefore(t *testing.T) {
	var l lock.Table
	gets(t, &l, 1, 3)
	gets(t, &l, 1, 3)
	stands(t, &l, 3, 1)
	queues(t, &l, 2, 3)
	gets(t, &l, 1, 3) // who holds it need not wait behind who waits
	stands(t, &l, 3, 1, 2)
	drops(t, &l, 1, api.Write{Key: 3, Value: 2}) // it was held once, however often it was asked for
	stands(t, &l, 3, 2)
}

func TestAskOfAHeldKeyWaitsBehindAll(t *testing.T) {
	var l lock.Table
	gets(t, &l, 4, 3)
	for _, tx := range []int{7, 2, 9, 1} { // in line as they asked, not by their numbers
		queues(t, &l, tx, 3)
	}
	stands(t, &l, 3, 4, 7, 2, 9, 1)
	waits(t, &l, 4, -1)
	stands(t, &l, 2, 0)
}

func TestAskBeyondWhatThereIs(t *testing.T) {
	var l lock.Table
	gets(t, &l, 1, 0)
	queues(t, &l, 2, 0)
	for _, key := range []int{math.MinInt, -1, api.MaxKeys, math.MaxInt} {
		fails(t, &l, 1, key, api.ErrRange)
		fails(t, &l, 2, key, api.ErrRange) // though it waits: the range is told first
		fails(t, &l, 3, key, api.ErrRange)
		fails(t, &l, 0, key, api.ErrRange)
	}
	for _, tx := range []int{math.MinInt, -1, 0} {
		fails(t, &l, tx, 0, api.ErrRange)
		fails(t, &l, tx, 5, api.ErrRange)
	}
}

func TestAskWhileItWaits(t *testing.T) {
	var l lock.Table
	gets(t, &l, 1, 3)
	gets(t, &l, 2, 4)
	queues(t, &l, 2, 3)
	fails(t, &l, 2, 3, api.ErrState) // what it waits for
	fails(t, &l, 2, 4, api.ErrState) // what it holds
	fails(t, &l, 2, 5, api.ErrState) // what nobody holds
	gets(t, &l, 1, 5)
	fails(t, &l, 2, 5, api.ErrState) // what another one holds
	drops(t, &l, 1, api.Write{Key: 3, Value: 2})
	gets(t, &l, 2, 5) // it waits no more
}

func TestAskOfTwoRound(t *testing.T) {
	var l lock.Table
	gets(t, &l, 1, 3)
	gets(t, &l, 2, 4)
	queues(t, &l, 1, 4)
	fails(t, &l, 2, 3, api.ErrCycle)
	gets(t, &l, 2, 4) // what it holds is not round
	gets(t, &l, 2, 5)
	drops(t, &l, 2, api.Write{Key: 4, Value: 1})
	queues(t, &l, 2, 3) // and now it may wait
}

func TestAskOfManyRound(t *testing.T) {
	for many := 2; many <= api.MaxKeys; many++ {
		var l lock.Table
		for tx := 1; tx <= many; tx++ {
			gets(t, &l, tx, tx-1)
		}
		for tx := 1; tx < many; tx++ {
			queues(t, &l, tx, tx)
		}
		for key := range many - 1 {
			fails(t, &l, many, key, api.ErrCycle) // wherever along the chain
		}
		queues(t, &l, many+1, 0) // who holds nothing closes no ring
	}
}

func TestAskRoundFromBehindALine(t *testing.T) {
	var l lock.Table
	gets(t, &l, 1, 0)
	gets(t, &l, 2, 1)
	gets(t, &l, 3, 2)
	queues(t, &l, 2, 0)
	queues(t, &l, 3, 0)
	// 2 and 3 wait for who holds the key, not for who is ahead of them in line.
	queues(t, &l, 4, 2)
	stands(t, &l, 0, 1, 2, 3)
	fails(t, &l, 1, 1, api.ErrCycle)
	fails(t, &l, 1, 2, api.ErrCycle)
	drops(t, &l, 1, api.Write{Key: 0, Value: 2})
	fails(t, &l, 2, 2, api.ErrCycle) // 3 waits now for 2
}

func TestAskAlongAnotherChainIsNotRound(t *testing.T) {
	var l lock.Table
	gets(t, &l, 1, 1)
	gets(t, &l, 2, 2)
	gets(t, &l, 3, 3)
	queues(t, &l, 2, 3)
	queues(t, &l, 1, 2) // its chain ends at 3
	stands(t, &l, 2, 2, 1)
	stands(t, &l, 3, 3, 2)
	fails(t, &l, 3, 1, api.ErrCycle)
}

// 2.1: Drop.

func TestDropHandsOverByTheKeysRising(t *testing.T) {
	var l lock.Table
	for _, key := range []int{9, 0, 4, 7, 2} {
		gets(t, &l, 1, key)
	}
	gets(t, &l, 8, 5)
	queues(t, &l, 6, 9)
	queues(t, &l, 3, 0)
	queues(t, &l, 5, 7)
	queues(t, &l, 2, 7)
	queues(t, &l, 4, 5)
	drops(t, &l, 1, api.Write{Key: 0, Value: 3}, api.Write{Key: 7, Value: 5}, api.Write{Key: 9, Value: 6})
	stands(t, &l, 0, 3)
	stands(t, &l, 2, 0)
	stands(t, &l, 4, 0)
	stands(t, &l, 5, 8, 4) // another one's stays
	stands(t, &l, 7, 5, 2)
	stands(t, &l, 9, 6)
	for _, tx := range []int{3, 5, 6} {
		waits(t, &l, tx, -1)
	}
	drops(t, &l, 1)
}

func TestDropHandsOverInLine(t *testing.T) {
	var l lock.Table
	gets(t, &l, 4, 3)
	queues(t, &l, 7, 3)
	queues(t, &l, 2, 3)
	queues(t, &l, 9, 3)
	drops(t, &l, 4, api.Write{Key: 3, Value: 7})
	queues(t, &l, 4, 3) // it stands behind all, if it comes again
	stands(t, &l, 3, 7, 2, 9, 4)
	drops(t, &l, 7, api.Write{Key: 3, Value: 2})
	drops(t, &l, 2, api.Write{Key: 3, Value: 9})
	drops(t, &l, 9, api.Write{Key: 3, Value: 4})
	drops(t, &l, 4)
	if text := seen(&l); text != empty() {
		t.Errorf("all are dropped: %s", text)
	}
}

func TestDropLeavesTheLine(t *testing.T) {
	for i, left := range [][]int{{2, 3}, {1, 3}, {1, 2}} {
		var l lock.Table
		gets(t, &l, 5, 6)
		for tx := 1; tx <= 3; tx++ {
			queues(t, &l, tx, 6)
		}
		drops(t, &l, i+1)
		stands(t, &l, 6, 5, left...)
		waits(t, &l, i+1, -1)
		drops(t, &l, 5, api.Write{Key: 6, Value: left[0]})
		stands(t, &l, 6, left[0], left[1])
		queues(t, &l, i+1, 6)
		stands(t, &l, 6, left[0], left[1], i+1)
	}
}

func TestDropOfTheOnlyOneInLine(t *testing.T) {
	var l lock.Table
	gets(t, &l, 1, 3)
	queues(t, &l, 2, 3)
	drops(t, &l, 2)
	stands(t, &l, 3, 1)
	drops(t, &l, 1)
	stands(t, &l, 3, 0)
	gets(t, &l, 2, 3)
}

func TestDropOfOneThatHoldsAndWaits(t *testing.T) {
	var l lock.Table
	gets(t, &l, 1, 3)
	gets(t, &l, 2, 4)
	queues(t, &l, 3, 4)
	queues(t, &l, 2, 3)
	drops(t, &l, 2, api.Write{Key: 4, Value: 3})
	stands(t, &l, 3, 1)
	stands(t, &l, 4, 3)
	waits(t, &l, 2, -1)
	drops(t, &l, 1) // nobody is in line any more
	stands(t, &l, 3, 0)
}

func TestDropHandsOneSomeOfItsKeys(t *testing.T) {
	var l lock.Table
	gets(t, &l, 1, 0)
	gets(t, &l, 1, 1)
	gets(t, &l, 2, 2)
	queues(t, &l, 2, 0)
	queues(t, &l, 3, 0)
	queues(t, &l, 4, 1)
	drops(t, &l, 1, api.Write{Key: 0, Value: 2}, api.Write{Key: 1, Value: 4})
	drops(t, &l, 2, api.Write{Key: 0, Value: 3}) // what it asked for, and what it was handed
	stands(t, &l, 2, 0)
}

func TestDropOfNobody(t *testing.T) {
	var l lock.Table
	gets(t, &l, 1, 0)
	queues(t, &l, 2, 0)
	before := seen(&l)
	for _, tx := range []int{math.MinInt, -1, 0, 3, math.MaxInt} {
		drops(t, &l, tx)
	}
	if after := seen(&l); after != before {
		t.Errorf("%s, not %s", after, before)
	}
}

// 2.1: Holds, Waits, Line of what is not there.

func TestNoSuchKeyAndNoSuchOne(t *testing.T) {
	var l lock.Table
	for tx := 1; tx <= api.MaxKeys; tx++ {
		gets(t, &l, tx, tx-1)
		queues(t, &l, tx+api.MaxKeys, tx-1)
	}
	for _, key := range []int{math.MinInt, -1, api.MaxKeys, math.MaxInt} {
		stands(t, &l, key, 0)
	}
	for _, tx := range []int{math.MinInt, -1, 0, 1, 2*api.MaxKeys + 1, math.MaxInt} {
		waits(t, &l, tx, -1)
	}
	waits(t, &l, api.MaxKeys+1, 0) // who waits for key 0 is told from who waits for none
}

// P4: lists.

func TestListsThatComeOutAreTheCallers(t *testing.T) {
	var l lock.Table
	gets(t, &l, 1, 3)
	gets(t, &l, 1, 4)
	for _, tx := range []int{2, 3, 5} {
		queues(t, &l, tx, 3)
	}
	queues(t, &l, 6, 4)
	line, again := l.Line(3), l.Line(3)
	clear(line)
	line = append(line[:1], -1)
	if !slices.Equal(again, []int{2, 3, 5}) {
		t.Errorf("two lists share: %v", again)
	}
	stands(t, &l, 3, 1, 2, 3, 5)
	next := l.Drop(1)
	clear(next)
	next = append(next[:1], api.Write{Key: -1})
	stands(t, &l, 3, 2, 3, 5)
	stands(t, &l, 4, 6)
	if !slices.Equal(again, []int{2, 3, 5}) {
		t.Errorf("a list that came out is written into: %v", again)
	}
}

func TestTablesAreApart(t *testing.T) {
	var a, b lock.Table
	gets(t, &a, 1, 3)
	queues(t, &a, 2, 3)
	gets(t, &b, 2, 3)
	drops(t, &b, 2)
	stands(t, &a, 3, 1, 2)
	stands(t, &b, 3, 0)
}

// 2.1: all calls in turn, against a table that is one plain list.

// claim is that one holds, or waits for, a key.
type claim struct{ tx, key int }

// list is a table as the document tells it: every claim, as it was laid; the first one of a key is who holds it.
type list []claim

func (m list) line(key int) (all []int) {
	for _, c := range m {
		if c.key == key {
			all = append(all, c.tx)
		}
	}
	return all
}

func (m list) holds(key int) int {
	if all := m.line(key); len(all) > 0 {
		return all[0]
	}
	return 0
}

func (m list) waits(tx int) int {
	for _, c := range m {
		if c.tx == tx && m.holds(c.key) != tx {
			return c.key
		}
	}
	return -1
}

// round says whether one would wait for itself, if it waited for a key.
func (m list) round(tx, key int) bool {
	for key >= 0 {
		if m.holds(key) == tx {
			return true
		}
		key = m.waits(m.holds(key))
	}
	return false
}

func (m *list) ask(tx, key int) (bool, api.Errno) {
	switch {
	case key < 0 || key >= api.MaxKeys || tx < 1:
		return false, api.ErrRange
	case m.waits(tx) >= 0:
		return false, api.ErrState
	case m.holds(key) == tx:
		return true, api.OK
	case m.round(tx, key):
		return false, api.ErrCycle
	}
	*m = append(*m, claim{tx, key})
	return m.holds(key) == tx, api.OK
}

func (m *list) drop(tx int) (next []api.Write) {
	before := slices.Clone(*m)
	*m = slices.DeleteFunc(*m, func(c claim) bool { return c.tx == tx })
	for key := range api.MaxKeys {
		if now := m.holds(key); now != 0 && before.holds(key) == tx {
			next = append(next, api.Write{Key: key, Value: now})
		}
	}
	return next
}

func (m list) seen() string {
	text := ""
	for key := range api.MaxKeys {
		text += fmt.Sprint(m.holds(key), slices.Clone(m.line(key)[min(1, len(m.line(key))):]), ";")
	}
	for tx := range most + 1 {
		text += fmt.Sprint(m.waits(tx), ";")
	}
	return text
}

// drawn are numbers that look drawn, the same each time.
type drawn uint64

func (d *drawn) below(n int) int {
	*d = *d*6364136223846793005 + 1442695040888963407
	return int(uint64(*d>>33) % uint64(n))
}

func TestAgainstAPlainList(t *testing.T) {
	d := drawn(2)
	told := map[api.Errno]int{}
	for run := range 200 {
		var l lock.Table
		var m list
		keys := 2 + d.below(api.MaxKeys-1)
		for step := range 60 {
			tx, key := d.below(most+1), d.below(keys+2)-1
			if d.below(6) == 0 {
				if got, want := l.Drop(tx), m.drop(tx); !slices.Equal(got, want) {
					t.Fatalf("run %d, step %d: Drop(%d): %v, not %v", run, step, tx, got, want)
				}
			} else {
				got, err := l.Ask(tx, key)
				want, wrong := m.ask(tx, key)
				if e, place := plain.Place(err); got != want || e != wrong || place != nowhere {
					t.Fatalf("run %d, step %d: Ask(%d, %d): %v, error %d at %d, not %v, %d", run, step, tx, key, got, e, place, want, wrong)
				}
				told[wrong]++
			}
			if got, want := seen(&l), m.seen(); got != want {
				t.Fatalf("run %d, step %d: %s, not %s", run, step, got, want)
			}
		}
	}
	for _, e := range []api.Errno{api.OK, api.ErrRange, api.ErrState, api.ErrCycle} {
		if told[e] == 0 {
			t.Errorf("error %d was never told: the numbers are drawn badly", e)
		}
	}
}

// 2.1: nobody waits for ever: as long as anybody waits somebody who waits not holds something, and who lets go is followed.

func TestNobodyWaitsForEver(t *testing.T) {
	d := drawn(3)
	for run := range 100 {
		var l lock.Table
		for range 60 {
			l.Ask(1+d.below(most), d.below(5))
		}
		for range most {
			free := 0
			for key := range api.MaxKeys {
				if tx := l.Holds(key); tx > 0 && l.Waits(tx) < 0 {
					free = tx
				}
			}
			l.Drop(free)
		}
		if text := seen(&l); text != empty() {
			t.Fatalf("run %d: somebody waits for ever: %s", run, text)
		}
	}
}
