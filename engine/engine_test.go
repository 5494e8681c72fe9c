package engine_test

import (
	"fmt"
	"math"
	"slices"
	"testing"

	"interleaf/api"
	"interleaf/engine"
	"interleaf/plain"
)

// nowhere is the place of an error that has none.
const nowhere = -1

// bench is an engine that is held against what it must tell.
type bench struct {
	*testing.T
	e *engine.Engine
}

// empty is a bench with an engine without anything.
func empty(t *testing.T) bench { return bench{t, engine.New()} }

// over is a bench with an engine over values that there are.
func over(t *testing.T, at int, l ...api.Write) bench {
	t.Helper()
	e, err := engine.Over(at, l)
	if err != nil {
		t.Fatalf("Over(%d, %v): %v", at, l, err)
	}
	return bench{t, e}
}

// begins begins one of a level.
func (b bench) begins(level int) int {
	b.Helper()
	n, err := b.e.Begin(level)
	if err != nil || n != b.e.Txs() {
		b.Fatalf("Begin(%d): %d, %v", level, n, err)
	}
	return n
}

// tells holds an error against what it must be, and that it has no place.
func (b bench) tells(what string, err error, want api.Errno) {
	b.Helper()
	if e, place := plain.Place(err); e != want || place != nowhere {
		b.Errorf("%s: error %d at %d, not %d", what, e, place, want)
	}
	if want == api.OK && err != nil {
		b.Errorf("%s: an error that is none", what)
	}
}

// reads lets one read a value.
func (b bench) reads(n, key, want int) {
	b.Helper()
	if value, err := b.e.Read(n, key); value != want || err != nil {
		b.Errorf("Read(%d, %d): %d, %v, not %d", n, key, value, err, want)
	}
}

// readsNot lets one read what it may not.
func (b bench) readsNot(n, key int, want api.Errno) {
	b.Helper()
	value, err := b.e.Read(n, key)
	b.tells(fmt.Sprintf("Read(%d, %d)", n, key), err, want)
	if value != 0 {
		b.Errorf("Read(%d, %d): %d beside an error", n, key, value)
	}
}

// writes lets one write what it may.
func (b bench) writes(n, key, value int) {
	b.Helper()
	if done, err := b.e.Write(n, key, value); !done || err != nil {
		b.Errorf("Write(%d, %d, %d): %v, %v, not true", n, key, value, done, err)
	}
}

// queues lets one write what another one holds.
func (b bench) queues(n, key, value, holder int) {
	b.Helper()
	if done, err := b.e.Write(n, key, value); done || err != nil {
		b.Errorf("Write(%d, %d, %d): %v, %v, not false", n, key, value, done, err)
	}
	b.is(n, api.Waits, api.OK)
	b.waits(n, holder)
}

// writesNot lets one write what it may not.
func (b bench) writesNot(n, key, value int, want api.Errno) {
	b.Helper()
	done, err := b.e.Write(n, key, value)
	b.tells(fmt.Sprintf("Write(%d, %d, %d)", n, key, value), err, want)
	if done {
		b.Errorf("Write(%d, %d, %d): true beside an error", n, key, value)
	}
}

// commits lets one that is ready commit.
func (b bench) commits(n int) {
	b.Helper()
	b.tells(fmt.Sprintf("Ready(%d)", n), b.e.Ready(n), api.OK)
	b.tells(fmt.Sprintf("Commit(%d)", n), b.e.Commit(n), api.OK)
	b.is(n, api.Committed, api.OK)
}

// commitsNot lets one commit that could not be anywhere: Ready tells it ahead, and changes nothing.
func (b bench) commitsNot(n int) {
	b.Helper()
	b.tells(fmt.Sprintf("Ready(%d)", n), b.e.Ready(n), api.ErrFalse)
	b.is(n, api.Open, api.OK)
	b.tells(fmt.Sprintf("Commit(%d)", n), b.e.Commit(n), api.ErrFalse)
	b.is(n, api.Gone, api.ErrFalse)
}

// aborts lets one be gone.
func (b bench) aborts(n int) {
	b.Helper()
	b.tells(fmt.Sprintf("Abort(%d)", n), b.e.Abort(n), api.OK)
	b.is(n, api.Gone, api.OK)
}

// is holds the state of one against what it must be.
func (b bench) is(n, state int, why api.Errno) {
	b.Helper()
	if s, w, err := b.e.State(n); s != state || w != why || err != nil {
		b.Errorf("State(%d): %d, %d, %v, not %d, %d", n, s, w, err, state, why)
	}
}

// waits holds whom one waits for against who it must be.
func (b bench) waits(n, holder int) {
	b.Helper()
	if got := b.e.Waits(n); got != holder {
		b.Errorf("Waits(%d): %d, not %d", n, got, holder)
	}
}

// wrote holds what one wrote against what it must be.
func (b bench) wrote(n int, want ...api.Write) {
	b.Helper()
	if got, err := b.e.Writes(n); err != nil || !slices.Equal(got, want) {
		b.Errorf("Writes(%d): %v, %v, not %v", n, got, err, want)
	}
}

// has holds what is committed against what it must be.
func (b bench) has(last, many int, want ...api.Write) {
	b.Helper()
	if b.e.Last() != last || b.e.Many() != many || !slices.Equal(b.e.All(), want) {
		b.Errorf("Last %d, Many %d, All %v, not %d, %d, %v", b.e.Last(), b.e.Many(), b.e.All(), last, many, want)
	}
}

// did holds what the committed ones did against what it must be.
func (b bench) did(want ...api.Op) {
	b.Helper()
	if got := b.e.History(); !slices.Equal(got, want) {
		b.Errorf("History: %v, not %v", got, want)
	}
}

// put lets one of its own commit a value.
func (b bench) put(level, key, value int) int {
	b.Helper()
	n := b.begins(level)
	b.writes(n, key, value)
	b.commits(n)
	return n
}

// pair is a key and its value.
func pair(key, value int) api.Write { return api.Write{Key: key, Value: value} }

// r is a read of a key, as one wrote it.
func r(tx, key, from int) api.Op { return api.Op{Tx: tx, Key: key, From: from} }

// w is a write of a key.
func w(tx, key int) api.Op { return api.Op{Tx: tx, Key: key, Write: true} }

// levels are those of transactions.
func levels() []int { return []int{api.Loose, api.Steady, api.Strict} }

func TestNewHasNothing(t *testing.T) {
	b := empty(t)
	b.has(0, 0)
	b.did()
	if b.e.Txs() != 0 || b.e.Sweep() != 0 {
		t.Errorf("Txs %d, Sweep %d", b.e.Txs(), b.e.Sweep())
	}
}

func TestNewOnesShareNothing(t *testing.T) {
	a, b := empty(t), empty(t)
	a.put(api.Strict, 3, 7)
	b.has(0, 0)
	if b.e.Txs() != 0 {
		t.Errorf("Txs: %d", b.e.Txs())
	}
}

func TestOverOfNothingIsNew(t *testing.T) {
	over(t, 0).has(0, 0)
	over(t, 0, []api.Write{}...).has(0, 0)
	b := over(t, 0)
	b.put(api.Loose, 1, 2)
	b.has(1, 1, pair(1, 2))
}

func TestOverHasItsValues(t *testing.T) {
	b := over(t, 5, pair(3, 1), pair(0, -2), pair(3, 7))
	b.has(5, 2, pair(0, -2), pair(3, 7))
	for _, level := range levels() {
		n := b.begins(level)
		b.reads(n, 3, 7)
		b.reads(n, 0, -2)
		b.readsNot(n, 1, api.ErrNone)
	}
	n := b.put(api.Strict, 3, 8)
	b.has(6, 3, pair(0, -2), pair(3, 8))
	b.did(w(n, 3))
}

func TestOverATimeWithoutWrites(t *testing.T) {
	b := over(t, 4)
	b.has(4, 0)
	b.put(api.Steady, 9, 1)
	b.has(5, 1, pair(9, 1))
}

func TestOverIsOfNobody(t *testing.T) {
	b := over(t, 1, pair(2, 5))
	n := b.begins(api.Strict)
	b.reads(n, 2, 5)
	b.commits(n)
	b.did(r(n, 2, 0))
}

func TestOverTellsInstallsErrors(t *testing.T) {
	cases := []struct {
		at    int
		l     []api.Write
		want  api.Errno
		place int
	}{
		{0, []api.Write{pair(1, 1)}, api.ErrOrder, nowhere},
		{0, []api.Write{pair(10, 1)}, api.ErrOrder, nowhere},
		{-1, nil, api.ErrOrder, nowhere},
		{math.MinInt, nil, api.ErrOrder, nowhere},
		{api.MaxNumber + 1, nil, api.ErrOrder, nowhere},
		{math.MaxInt, []api.Write{pair(1, 1)}, api.ErrOrder, nowhere},
		{1, []api.Write{pair(1, 1), pair(api.MaxKeys, 1)}, api.ErrRange, 1},
		{1, []api.Write{pair(-1, 1), pair(1, 1)}, api.ErrRange, 0},
		{1, []api.Write{pair(1, 1), pair(2, 1), pair(3, api.MaxNumber+1)}, api.ErrArg, 2},
		{1, []api.Write{pair(1, -api.MaxNumber-1), pair(-1, 1)}, api.ErrArg, 0},
	}
	for _, c := range cases {
		e, err := engine.Over(c.at, c.l)
		if got, place := plain.Place(err); e != nil || got != c.want || place != c.place {
			t.Errorf("Over(%d, %v): %v, error %d at %d, not %d at %d", c.at, c.l, e, got, place, c.want, c.place)
		}
	}
}

func TestOverKeepsNoList(t *testing.T) {
	l := []api.Write{pair(1, 5), pair(2, 6), pair(3, 7)}
	b := over(t, 1, l[:2]...)
	if l[2] != pair(3, 7) || l[0] != pair(1, 5) {
		t.Errorf("the list is written into: %v", l)
	}
	l[0] = pair(4, 4)
	b.has(1, 2, pair(1, 5), pair(2, 6))
}

func TestBeginNumbersFromOneOn(t *testing.T) {
	b := empty(t)
	for i, level := range levels() {
		if n := b.begins(level); n != i+1 {
			t.Errorf("Begin: %d, not %d", n, i+1)
		}
		b.is(i+1, api.Open, api.OK)
		b.wrote(i + 1)
		b.waits(i+1, 0)
	}
}

func TestBeginAsksForALevel(t *testing.T) {
	b := empty(t)
	for _, level := range []int{-1, 3, math.MinInt, math.MaxInt} {
		n, err := b.e.Begin(level)
		b.tells(fmt.Sprintf("Begin(%d)", level), err, api.ErrArg)
		if n != 0 || b.e.Txs() != 0 {
			t.Errorf("Begin(%d): %d, and there are %d", level, n, b.e.Txs())
		}
	}
}

// beginsNot begins one that may not be.
func (b bench) beginsNot(level int, want api.Errno) {
	b.Helper()
	before := b.e.Txs()
	n, err := b.e.Begin(level)
	b.tells(fmt.Sprintf("Begin(%d)", level), err, want)
	if n != 0 || b.e.Txs() != before {
		b.Errorf("Begin(%d): %d, and there are %d", level, n, b.e.Txs())
	}
}

func TestBeginUpToMaxOpen(t *testing.T) {
	b := empty(t)
	for range api.MaxOpen {
		b.begins(api.Loose)
	}
	b.beginsNot(api.Strict, api.ErrLimit)
	b.beginsNot(7, api.ErrArg)
	b.writes(1, 0, 1)
	b.queues(2, 0, 1, 1) // who waits is not over
	b.beginsNot(api.Strict, api.ErrLimit)
	b.commits(3)
	b.begins(api.Strict)
	b.beginsNot(api.Loose, api.ErrLimit)
	b.aborts(2)
	b.begins(api.Steady)
	b.beginsNot(api.Loose, api.ErrLimit)
}

func TestBeginUpToMaxTxs(t *testing.T) {
	b := empty(t)
	for i := range api.MaxTxs - api.MaxOpen {
		n := b.begins(i % 3)
		if i%2 == 0 {
			b.aborts(n)
		} else {
			b.commits(n)
		}
	}
	for range api.MaxOpen {
		b.begins(api.Loose)
	}
	b.beginsNot(api.Loose, api.ErrFull) // ahead of ErrLimit
	b.beginsNot(-1, api.ErrArg)         // ahead of both
	b.aborts(api.MaxTxs)
	b.beginsNot(api.Loose, api.ErrFull)
	if b.e.Txs() != api.MaxTxs {
		t.Errorf("Txs: %d", b.e.Txs())
	}
}

// missing asks all that asks for a transaction for one that there is not.
func (b bench) missing(n int) {
	b.Helper()
	b.readsNot(n, 0, api.ErrMissing)
	b.readsNot(n, -1, api.ErrMissing)
	b.writesNot(n, 0, 0, api.ErrMissing)
	b.writesNot(n, 10, api.MaxNumber+1, api.ErrMissing)
	b.tells("Ready", b.e.Ready(n), api.ErrMissing)
	b.tells("Commit", b.e.Commit(n), api.ErrMissing)
	b.tells("Abort", b.e.Abort(n), api.ErrMissing)
	state, why, err := b.e.State(n)
	b.tells("State", err, api.ErrMissing)
	if state != 0 || why != api.OK {
		b.Errorf("State(%d): %d, %d beside an error", n, state, why)
	}
	l, err := b.e.Writes(n)
	b.tells("Writes", err, api.ErrMissing)
	if len(l) != 0 {
		b.Errorf("Writes(%d): %v beside an error", n, l)
	}
	b.waits(n, 0)
}

func TestMissingOnes(t *testing.T) {
	b := empty(t)
	b.missing(1)
	b.begins(api.Strict)
	for _, n := range []int{0, -1, 2, math.MinInt, math.MaxInt} {
		b.missing(n)
	}
}

// closed asks one that is not Open for what only an Open one does.
func (b bench) closed(n int) {
	b.Helper()
	b.readsNot(n, 0, api.ErrState)
	b.readsNot(n, 10, api.ErrState)
	b.writesNot(n, 5, 0, api.ErrState)
	b.writesNot(n, -1, api.MaxNumber+1, api.ErrState)
	b.tells("Ready", b.e.Ready(n), api.ErrState)
	b.tells("Commit", b.e.Commit(n), api.ErrState)
}

func TestOnlyWhoIsOpenGoesOn(t *testing.T) {
	b := empty(t)
	one, other, third := b.begins(api.Loose), b.begins(api.Loose), b.begins(api.Loose)
	b.writes(one, 0, 1)
	b.queues(other, 0, 2, one)
	b.closed(other)
	b.is(other, api.Waits, api.OK)
	b.aborts(third)
	b.closed(third)
	b.tells("Abort", b.e.Abort(third), api.ErrState)
	b.is(third, api.Gone, api.OK)
	b.commits(one)
	b.closed(one)
	b.tells("Abort", b.e.Abort(one), api.ErrState)
	b.is(one, api.Committed, api.OK)
	b.wrote(one, pair(0, 1))
}

func TestReadIsItsOwnFirst(t *testing.T) {
	for _, level := range levels() {
		b := over(t, 1, pair(3, 7))
		n := b.begins(level)
		b.reads(n, 3, 7)
		b.writes(n, 3, 0)
		b.writes(n, 4, 9)
		b.reads(n, 3, 0)
		b.reads(n, 4, 9)
		b.writes(n, 3, -5)
		b.reads(n, 3, -5)
		b.commits(n)
		b.did(r(n, 3, 0), w(n, 3), w(n, 4)) // its own are no reads of the Store
	}
}

func TestReadOfNoKeyAndOfNothing(t *testing.T) {
	for _, level := range levels() {
		b := empty(t)
		n := b.begins(level)
		for _, key := range []int{-1, api.MaxKeys, math.MinInt, math.MaxInt} {
			b.readsNot(n, key, api.ErrRange)
		}
		b.readsNot(n, 0, api.ErrNone)
		b.readsNot(n, api.MaxKeys-1, api.ErrNone)
		b.is(n, api.Open, api.OK)
		b.commits(n)
		b.did(r(n, 0, 0), r(n, api.MaxKeys-1, 0))
	}
}

func TestReadOfTheLevels(t *testing.T) {
	b := empty(t)
	first := b.put(api.Loose, 3, 7)
	loose, steady, strict := b.begins(api.Loose), b.begins(api.Steady), b.begins(api.Strict)
	writer := b.begins(api.Loose)
	b.writes(writer, 3, 8)
	b.writes(writer, 4, 9)
	for _, n := range []int{loose, steady, strict} {
		b.reads(n, 3, 7) // what is not committed is not seen
		b.readsNot(n, 4, api.ErrNone)
	}
	b.commits(writer)
	b.reads(loose, 3, 8)
	b.reads(loose, 4, 9)
	for _, n := range []int{steady, strict} {
		b.reads(n, 3, 7)
		b.readsNot(n, 4, api.ErrNone)
	}
	b.commits(loose)
	b.did(w(first, 3), w(writer, 3), w(writer, 4),
		r(loose, 3, first), r(loose, 4, 0), r(loose, 3, writer), r(loose, 4, writer))
}

// committedPulled has a middle one that is Committed, and pulled by puller, and has read key 0; late may write that key. All of them are Strict.
func committedPulled(b bench) (puller, middle, late int) {
	b.Helper()
	puller, middle, late = b.begins(api.Strict), b.begins(api.Strict), b.begins(api.Strict)
	b.readsNot(puller, 1, api.ErrNone)
	b.writes(middle, 1, 5)
	b.readsNot(middle, 0, api.ErrNone)
	b.commits(middle)
	return puller, middle, late
}

func TestWriteThatIsWrongForACommittedReader(t *testing.T) {
	b := empty(t)
	_, _, late := committedPulled(b)
	b.writes(late, 2, 4)
	b.writesNot(late, 0, 6, api.ErrFalse)
	b.is(late, api.Gone, api.ErrFalse)
	b.wrote(late, pair(0, 6), pair(2, 4)) // the key has the value ahead of that
	b.closed(late)
	b.has(1, 1, pair(1, 5))
}

func TestWriteIsRightIfThePullerIsGone(t *testing.T) {
	b := empty(t)
	puller, _, late := committedPulled(b)
	b.aborts(puller)
	b.writes(late, 0, 6)
	b.commits(late)
	b.has(2, 2, pair(0, 6), pair(1, 5))
}

func TestWriteIsRightIfThePullerIsCommittedAndTheReaderWasOver(t *testing.T) {
	b := empty(t)
	puller, _, _ := committedPulled(b)
	b.commits(puller)
	n := b.begins(api.Strict)
	b.writes(n, 0, 6) // who read key 0 was over when it was begun
	b.commits(n)
}

func TestWriteIsWrongIfThePullerIsCommitted(t *testing.T) {
	b := empty(t)
	puller, _, late := committedPulled(b)
	b.commits(puller)
	b.writesNot(late, 0, 6, api.ErrFalse)
}

func TestWriteOfOneThatIsNotStrictIsNotWrong(t *testing.T) {
	for _, level := range []int{api.Loose, api.Steady} {
		b := empty(t)
		_, _, late := committedPulled(b)
		b.aborts(late)
		n := b.put(level, 0, 6)
		b.is(n, api.Committed, api.OK)
	}
}

// committedPushed has a middle one that is Committed, and pushed by pusher, and wrote key 1; late may read that key. All of them are Strict.
func committedPushed(b bench) (pusher, middle, late int) {
	b.Helper()
	pusher, middle, late = b.begins(api.Strict), b.begins(api.Strict), b.begins(api.Strict)
	b.readsNot(middle, 0, api.ErrNone)
	b.writes(pusher, 0, 4)
	b.writes(middle, 1, 5)
	b.commits(middle)
	return pusher, middle, late
}

func TestReadThatIsWrongForACommittedWriter(t *testing.T) {
	b := empty(t)
	_, _, late := committedPushed(b)
	b.readsNot(late, 1, api.ErrFalse) // ahead of ErrNone
	b.is(late, api.Gone, api.ErrFalse)
	b.closed(late)
}

func TestReadThatIsWrongTellsNoValue(t *testing.T) {
	b := over(t, 1, pair(1, 9), pair(0, 9))
	pusher, middle, late := b.begins(api.Strict), b.begins(api.Strict), b.begins(api.Strict)
	b.reads(middle, 0, 9)
	b.writes(pusher, 0, 4)
	b.writes(middle, 1, 5)
	b.commits(middle)
	b.commits(pusher)
	b.readsNot(late, 1, api.ErrFalse)
}

func TestReadIsRightIfThePusherIsGone(t *testing.T) {
	b := empty(t)
	pusher, middle, late := committedPushed(b)
	b.aborts(pusher)
	b.readsNot(late, 1, api.ErrNone)
	b.is(late, api.Open, api.OK)
	b.commits(late)
	b.did(r(middle, 0, 0), w(middle, 1), r(late, 1, 0))
}

func TestReadIsRightIfTheWriterIsSeen(t *testing.T) {
	b := empty(t)
	_, middle, _ := committedPushed(b)
	n := b.begins(api.Strict)
	b.reads(n, 1, 5)
	b.commits(n)
	b.did(r(middle, 0, 0), w(middle, 1), r(n, 1, middle))
}

func TestReadOfOneThatIsNotStrictIsNotWrong(t *testing.T) {
	for _, level := range []int{api.Loose, api.Steady} {
		b := empty(t)
		pusher, middle := b.begins(api.Strict), b.begins(api.Strict)
		n := b.begins(level)
		b.readsNot(middle, 0, api.ErrNone)
		b.writes(pusher, 0, 4)
		b.writes(middle, 1, 5)
		b.commits(middle)
		if level == api.Loose {
			b.reads(n, 1, 5)
		} else {
			b.readsNot(n, 1, api.ErrNone)
		}
		b.commits(n)
		b.commits(pusher)
	}
}

func TestReadOfSeveralCommittedOnesIsWrongByAnyOfThem(t *testing.T) {
	b := empty(t)
	late := b.begins(api.Strict)
	b.put(api.Strict, 1, 1) // not pushed
	b.put(api.Steady, 1, 2) // not Strict
	pusher, middle := b.begins(api.Strict), b.begins(api.Strict)
	b.readsNot(middle, 0, api.ErrNone)
	b.writes(pusher, 0, 4)
	b.writes(middle, 1, 5)
	b.commits(middle)
	b.put(api.Strict, 1, 6)
	b.readsNot(late, 1, api.ErrFalse)
	b.is(late, api.Gone, api.ErrFalse)
}

func TestTwoThatReadWhatTheOtherOneWrites(t *testing.T) {
	b := empty(t)
	one, other := b.begins(api.Strict), b.begins(api.Strict)
	b.readsNot(one, 0, api.ErrNone)
	b.readsNot(other, 1, api.ErrNone)
	b.writes(one, 1, 5)
	b.writes(other, 0, 6)
	b.commitsNot(one)
	b.commits(other) // nobody is ahead of it any more
	b.did(r(other, 1, 0), w(other, 0))
}

func TestTwoThatReadBehindTheWriting(t *testing.T) {
	b := empty(t)
	one, other := b.begins(api.Strict), b.begins(api.Strict)
	b.writes(one, 1, 5)
	b.writes(other, 0, 6)
	b.readsNot(one, 0, api.ErrNone)
	b.readsNot(other, 1, api.ErrNone)
	b.commitsNot(other)
	b.commits(one)
}

func TestOnlyStrictOnesArePushedAndPulled(t *testing.T) {
	for _, level := range []int{api.Loose, api.Steady} {
		b := empty(t)
		one, other := b.begins(api.Strict), b.begins(level)
		b.readsNot(one, 0, api.ErrNone)
		b.readsNot(other, 1, api.ErrNone)
		b.writes(one, 1, 5)
		b.writes(other, 0, 6)
		b.commits(one)
		b.commits(other)
	}
}

func TestNotPushedByACommittedOneThatIsNotStrict(t *testing.T) {
	for _, level := range levels() {
		b := empty(t)
		n, reader := b.begins(api.Strict), b.begins(api.Strict)
		b.put(level, 0, 1)
		b.readsNot(n, 0, api.ErrNone) // pushed, if that one was Strict
		b.readsNot(reader, 1, api.ErrNone)
		b.writes(n, 1, 1) // pulled
		if level == api.Strict {
			b.commitsNot(n)
		} else {
			b.commits(n)
		}
	}
}

func TestPushedAloneAndPulledAlone(t *testing.T) {
	b := empty(t)
	one, other := b.begins(api.Strict), b.begins(api.Strict)
	b.readsNot(one, 0, api.ErrNone)
	b.readsNot(one, 0, api.ErrNone)
	b.writes(other, 0, 6)
	b.writes(other, 0, 7)
	b.readsNot(one, 0, api.ErrNone)
	b.commits(other)
	b.commits(one)
	b.did(w(other, 0), r(one, 0, 0), r(one, 0, 0), r(one, 0, 0))
}

func TestOneIsNotAheadOfItself(t *testing.T) {
	b := over(t, 1, pair(0, 1))
	n := b.begins(api.Strict)
	b.reads(n, 0, 1)
	b.writes(n, 0, 2)
	b.reads(n, 0, 2)
	b.commits(n)
}

func TestItsOwnIsNotRead(t *testing.T) {
	b := empty(t)
	one := b.begins(api.Strict)
	b.writes(one, 0, 1)
	b.reads(one, 0, 1)
	b.readsNot(one, 1, api.ErrNone)
	other := b.begins(api.Strict)
	b.readsNot(other, 0, api.ErrNone) // other is ahead of one
	b.commits(one)
	third := b.begins(api.Strict)
	b.writes(third, 0, 2) // one was over, and other is not: other is ahead of third, too
	b.commits(third)
	b.commits(other)
}

func TestPulledByAReaderThatWasNotOver(t *testing.T) {
	b := empty(t)
	n := b.begins(api.Strict)
	reader := b.begins(api.Strict) // behind n's beginning, ahead of its write
	b.readsNot(reader, 0, api.ErrNone)
	b.commits(reader)
	b.writes(n, 0, 1) // pulled
	b.readsNot(n, 1, api.ErrNone)
	b.commits(b.begins(api.Loose))
	writer := b.begins(api.Strict)
	b.writes(writer, 1, 1) // n is pushed
	b.commitsNot(n)
}

func TestNotPulledByAReaderThatWasOver(t *testing.T) {
	b := empty(t)
	reader := b.begins(api.Strict)
	b.readsNot(reader, 0, api.ErrNone)
	b.commits(reader) // it wrote nothing: Last is the same
	n, writer := b.begins(api.Strict), b.begins(api.Strict)
	b.writes(n, 0, 1)
	b.readsNot(n, 1, api.ErrNone)
	b.writes(writer, 1, 1)
	b.commits(n)
	b.commits(writer)
}

func TestNotPulledByAReaderThatIsGone(t *testing.T) {
	b := empty(t)
	reader, n, writer := b.begins(api.Strict), b.begins(api.Strict), b.begins(api.Strict)
	b.readsNot(reader, 0, api.ErrNone)
	b.aborts(reader)
	b.writes(n, 0, 1)
	b.readsNot(n, 1, api.ErrNone)
	b.writes(writer, 1, 1)
	b.commits(n)
}

func TestPushedByAWriterThatWaits(t *testing.T) {
	b := empty(t)
	holder := b.begins(api.Loose)
	b.writes(holder, 5, 1)
	writer, n, reader := b.begins(api.Strict), b.begins(api.Strict), b.begins(api.Strict)
	b.writes(writer, 0, 1)
	b.queues(writer, 5, 2, holder)
	b.readsNot(n, 0, api.ErrNone) // pushed
	b.readsNot(n, 5, api.ErrNone) // not written yet by writer
	b.readsNot(reader, 1, api.ErrNone)
	b.writes(n, 1, 1) // pulled
	b.commitsNot(n)
}

func TestNotPushedByWhoWaitsForTheKey(t *testing.T) {
	b := empty(t)
	holder := b.begins(api.Loose)
	b.writes(holder, 5, 1)
	writer, n, reader := b.begins(api.Strict), b.begins(api.Strict), b.begins(api.Strict)
	b.queues(writer, 5, 2, holder)
	b.readsNot(n, 5, api.ErrNone)
	b.readsNot(reader, 1, api.ErrNone)
	b.writes(n, 1, 1) // pulled
	b.tells("Ready", b.e.Ready(n), api.OK)
	b.aborts(holder) // writer writes: n, which has read the key, is pushed
	b.wrote(writer, pair(5, 2))
	b.commitsNot(n)
}

func TestWriteAsksForAKeyAndAValue(t *testing.T) {
	for _, level := range levels() {
		b := empty(t)
		n := b.begins(level)
		for _, key := range []int{-1, api.MaxKeys, math.MinInt, math.MaxInt} {
			b.writesNot(n, key, 0, api.ErrRange)
			b.writesNot(n, key, api.MaxNumber+1, api.ErrRange)
		}
		for _, value := range []int{-api.MaxNumber - 1, api.MaxNumber + 1, math.MinInt, math.MaxInt} {
			b.writesNot(n, 0, value, api.ErrArg)
		}
		b.is(n, api.Open, api.OK)
		b.wrote(n)
		other := b.begins(level)
		b.writes(other, 0, -api.MaxNumber) // nobody holds it
		b.writes(other, api.MaxKeys-1, api.MaxNumber)
		b.writesNot(n, 0, api.MaxNumber+1, api.ErrArg) // nor does it wait
		b.is(n, api.Open, api.OK)
		b.commits(other)
		b.has(1, 2, pair(0, -api.MaxNumber), pair(api.MaxKeys-1, api.MaxNumber))
	}
}

func TestWriteWaitsInLine(t *testing.T) {
	b := empty(t)
	one, other, third := b.begins(api.Loose), b.begins(api.Loose), b.begins(api.Loose)
	b.writes(one, 4, 1)
	b.queues(third, 4, 3, one)
	b.queues(other, 4, 2, one)
	b.wrote(other)
	b.wrote(third)
	b.commits(one)
	b.is(third, api.Open, api.OK)
	b.wrote(third, pair(4, 3))
	b.waits(third, 0)
	b.waits(other, third)
	b.reads(third, 4, 3)
	b.commits(third)
	b.is(other, api.Open, api.OK)
	b.commits(other)
	b.has(3, 3, pair(4, 2))
	b.did(w(one, 4), w(third, 4), w(other, 4))
}

func TestWriteRoundIsGone(t *testing.T) {
	for _, level := range levels() {
		b := empty(t)
		one, other := b.begins(level), b.begins(level)
		b.writes(one, 3, 1)
		b.writes(other, 4, 2)
		b.queues(one, 4, 3, other)
		b.writesNot(other, 3, 4, api.ErrCycle)
		b.is(other, api.Gone, api.ErrCycle)
		b.wrote(other, pair(4, 2))
		b.is(one, api.Open, api.OK) // it went on at once
		b.wrote(one, pair(3, 1), pair(4, 3))
		b.commits(one)
		b.has(1, 2, pair(3, 1), pair(4, 3))
	}
}

func TestWriteRoundByThree(t *testing.T) {
	b := empty(t)
	one, other, third := b.begins(api.Loose), b.begins(api.Steady), b.begins(api.Strict)
	b.writes(one, 0, 1)
	b.writes(other, 1, 1)
	b.writes(third, 2, 1)
	b.queues(one, 1, 1, other)
	b.queues(other, 2, 1, third)
	b.writesNot(third, 0, 1, api.ErrCycle)
	b.is(other, api.Open, api.OK)
	b.waits(one, other)
	b.commits(other)
	b.is(one, api.Open, api.OK)
}

func TestWriteOfWhatIsCommittedSince(t *testing.T) {
	for _, level := range []int{api.Steady, api.Strict} {
		b := empty(t)
		n := b.begins(level)
		b.writes(n, 1, 1)
		b.put(api.Loose, 0, 5)
		b.writes(n, 2, 2)
		b.writesNot(n, 0, 6, api.ErrOrder)
		b.is(n, api.Gone, api.ErrOrder)
		b.wrote(n, pair(1, 1), pair(2, 2)) // the key never had it
		b.put(api.Loose, 0, 7)             // it holds nothing
		b.put(api.Loose, 1, 7)
	}
}

func TestWriteOfWhatIsCommittedAhead(t *testing.T) {
	for _, level := range levels() {
		b := over(t, 3, pair(0, 4))
		b.put(api.Loose, 0, 5)
		b.put(level, 0, 6)
		b.has(5, 3, pair(0, 6))
	}
}

func TestWriteOfALooseOneOverAll(t *testing.T) {
	b := empty(t)
	n := b.begins(api.Loose)
	b.put(api.Strict, 0, 5)
	b.writes(n, 0, 6)
	b.commits(n)
	b.has(2, 2, pair(0, 6))
}

func TestCommitOfNothingTakesNoTime(t *testing.T) {
	b := over(t, 1, pair(0, 1))
	for _, level := range levels() {
		n := b.begins(level)
		b.reads(n, 0, 1)
		b.commits(n)
		b.has(1, 1, pair(0, 1))
	}
	b.did(r(1, 0, 0), r(2, 0, 0), r(3, 0, 0))
}

func TestCommitOfTheSameValueIsAVersion(t *testing.T) {
	b := over(t, 1, pair(0, 1))
	n := b.begins(api.Steady)
	b.put(api.Steady, 0, 1)
	b.has(2, 2, pair(0, 1))
	b.writesNot(n, 0, 1, api.ErrOrder)
}

func TestCommitWhereLastIsMaxNumber(t *testing.T) {
	for _, level := range levels() {
		b := over(t, api.MaxNumber, pair(0, 1), pair(2, 3))
		for n := 1; n <= 3; n++ {
			b.begins(level)
			b.reads(n, 0, 1)
			b.writes(n, 0, 5)
			b.writes(n, 1, n)
			b.commits(n)
			b.closed(n)
			b.wrote(n, pair(0, 5), pair(1, n))
			b.has(api.MaxNumber, 2, pair(0, 1), pair(2, 3))
		}
		b.did(r(1, 0, 0), w(1, 0), w(1, 1), r(2, 0, 0), w(2, 0), w(2, 1), r(3, 0, 0), w(3, 0), w(3, 1))
	}
}

func TestCommitAtMaxNumberIsTheLastOneInTheStore(t *testing.T) {
	for _, level := range levels() {
		b := over(t, api.MaxNumber-1)
		first := b.put(level, 0, 1)
		b.has(api.MaxNumber, 1, pair(0, 1))
		second := b.put(level, 0, 2)
		b.has(api.MaxNumber, 1, pair(0, 1))
		third := b.begins(level)
		b.reads(third, 0, 1)
		b.commits(third)
		b.did(w(first, 0), w(second, 0), r(third, 0, first))
	}
}

func TestCommitWhereLastIsMaxNumberLetsItsKeysGo(t *testing.T) {
	for _, level := range levels() {
		b := over(t, api.MaxNumber)
		one, other := b.begins(level), b.begins(level)
		b.writes(one, 0, 1)
		b.queues(other, 0, 2, one)
		b.commits(one)
		b.waits(other, 0)
		b.is(other, api.Open, api.OK) // there is no later version: it is not Gone by that
		b.wrote(other, pair(0, 2))
		b.reads(other, 0, 2)
		b.commits(other)
		b.has(api.MaxNumber, 0)
		b.did(w(one, 0), w(other, 0))
	}
}

func TestCommitWhereLastIsMaxNumberTellsReadysErrors(t *testing.T) {
	b := over(t, api.MaxNumber, pair(0, 1), pair(1, 1))
	one, other := b.begins(api.Strict), b.begins(api.Strict)
	b.reads(one, 0, 1)
	b.reads(other, 1, 1)
	b.writes(one, 1, 2)
	b.writes(other, 0, 2)
	b.commitsNot(one)
	b.commits(other)
	b.has(api.MaxNumber, 2, pair(0, 1), pair(1, 1))
	b.did(r(other, 1, 0), w(other, 0))
}

func TestAbortCountsForNothing(t *testing.T) {
	for _, level := range levels() {
		b := over(t, 1, pair(0, 1))
		n := b.begins(level)
		b.reads(n, 0, 1)
		b.writes(n, 0, 2)
		b.aborts(n)
		b.has(1, 1, pair(0, 1))
		b.wrote(n, pair(0, 2))
		b.did()
		b.put(level, 0, 3)
	}
}

func TestAbortOfOneThatWaits(t *testing.T) {
	b := empty(t)
	one, other, third := b.begins(api.Steady), b.begins(api.Steady), b.begins(api.Steady)
	b.writes(one, 0, 1)
	b.writes(other, 1, 1)
	b.queues(other, 0, 2, one)
	b.queues(third, 1, 3, other)
	b.aborts(other)
	b.wrote(other, pair(1, 1))
	b.waits(other, 0)
	b.is(third, api.Open, api.OK)
	b.wrote(third, pair(1, 3))
	b.commits(one)
	b.is(other, api.Gone, api.OK)
	b.commits(third)
}

func TestWhoWaitedForACommittedOne(t *testing.T) {
	want := map[int]api.Errno{api.Loose: api.OK, api.Steady: api.ErrOrder, api.Strict: api.ErrOrder}
	for _, level := range levels() {
		b := empty(t)
		holder, n := b.begins(api.Strict), b.begins(level)
		b.writes(holder, 0, 1)
		b.queues(n, 0, 2, holder)
		b.commits(holder)
		b.waits(n, 0)
		if want[level] == api.OK {
			b.is(n, api.Open, api.OK)
			b.wrote(n, pair(0, 2))
			continue
		}
		b.is(n, api.Gone, want[level])
		b.wrote(n)
	}
}

func TestWhoWaitedForOneThatIsGone(t *testing.T) {
	for _, level := range levels() {
		b := empty(t)
		holder, n := b.begins(api.Strict), b.begins(level)
		b.writes(holder, 0, 1)
		b.queues(n, 0, 2, holder)
		b.aborts(holder)
		b.is(n, api.Open, api.OK)
		b.wrote(n, pair(0, 2))
		b.commits(n)
		b.has(1, 1, pair(0, 2))
	}
}

func TestWhoWaitedMayBeWrong(t *testing.T) {
	b := empty(t)
	holder := b.begins(api.Loose)
	b.writes(holder, 0, 1)
	_, _, late := committedPulled(b)
	b.queues(late, 0, 2, holder)
	b.aborts(holder)
	b.is(late, api.Gone, api.ErrFalse)
	b.wrote(late, pair(0, 2))
	b.put(api.Loose, 0, 3)
}

func TestWhoWaitedIsGoneAndSoOn(t *testing.T) {
	b := empty(t)
	holder, one, other, third := b.begins(api.Loose), b.begins(api.Steady), b.begins(api.Steady), b.begins(api.Steady)
	b.writes(holder, 0, 1)
	b.writes(one, 1, 1)
	b.queues(one, 0, 2, holder)
	b.queues(other, 0, 3, holder)
	b.queues(third, 1, 4, one)
	b.commits(holder)
	b.is(one, api.Gone, api.ErrOrder)
	b.is(other, api.Gone, api.ErrOrder)
	b.is(third, api.Open, api.OK)
	b.wrote(one, pair(1, 1))
	b.wrote(other)
	b.wrote(third, pair(1, 4))
	b.put(api.Loose, 0, 5)
}

func TestSeveralGoOnInTurn(t *testing.T) {
	b := empty(t)
	holder, one, other, third := b.begins(api.Loose), b.begins(api.Loose), b.begins(api.Loose), b.begins(api.Loose)
	for key := range 3 {
		b.writes(holder, key, 1)
	}
	b.queues(one, 2, 2, holder)
	b.queues(other, 0, 3, holder)
	b.queues(third, 0, 4, holder)
	b.aborts(holder)
	b.wrote(one, pair(2, 2))
	b.wrote(other, pair(0, 3))
	b.waits(third, other)
}

// TestAndSoOnIsAtOnce: who goes on by one that is Gone does so ahead of the next one of those that the first one let go on. Were it behind that one, the reader would be pulled yet, and last would be Gone.
func TestAndSoOnIsAtOnce(t *testing.T) {
	b := empty(t)
	puller := b.begins(api.Strict)
	b.put(api.Loose, 5, 1) // puller may write key 5 no more
	reader := b.begins(api.Strict)
	b.readsNot(puller, 7, api.ErrNone)
	b.writes(reader, 7, 1) // puller is ahead of it
	b.readsNot(reader, 1, api.ErrNone)
	last := b.begins(api.Strict)
	b.commits(reader)
	first := b.begins(api.Steady)
	b.writes(first, 5, 2)
	b.put(api.Loose, 0, 1) // first may write key 0 no more
	holder := b.begins(api.Loose)
	b.writes(holder, 0, 2)
	b.writes(holder, 1, 2)
	b.queues(last, 1, 3, holder)
	b.queues(first, 0, 3, holder)
	b.queues(puller, 5, 3, first)
	b.aborts(holder)
	b.is(first, api.Gone, api.ErrOrder)
	b.is(puller, api.Gone, api.ErrOrder)
	b.is(last, api.Open, api.OK)
	b.wrote(last, pair(1, 3))
	b.commits(last)
}

func TestWritesAreByTheKeys(t *testing.T) {
	b := empty(t)
	n := b.begins(api.Steady)
	var want []api.Write
	for key := api.MaxKeys - 1; key >= 0; key-- {
		b.writes(n, key, 1)
		b.writes(n, key, -key)
		want = append(want, pair(api.MaxKeys-1-key, key+1-api.MaxKeys))
	}
	b.wrote(n, want...)
	b.commits(n)
	b.wrote(n, want...)
	b.has(1, api.MaxKeys, want...)
}

func TestSweepByTheLeastStart(t *testing.T) {
	b := empty(t)
	for i := range 3 {
		b.put(api.Loose, 0, i)
	}
	steady := b.begins(api.Steady)
	b.put(api.Loose, 0, 3)
	strict := b.begins(api.Strict)
	b.put(api.Loose, 0, 4)
	loose := b.begins(api.Loose)
	b.sweeps(2) // steady started at 3
	b.reads(steady, 0, 2)
	b.reads(strict, 0, 3)
	b.reads(loose, 0, 4)
	b.sweeps(0)
	b.commits(steady)
	b.sweeps(1)
	b.reads(strict, 0, 3)
	b.aborts(strict)
	b.sweeps(1)
	b.has(5, 1, pair(0, 4))
	b.reads(loose, 0, 4)
	b.sweeps(0)
}

// sweeps holds how many versions are dropped against how many it must be.
func (b bench) sweeps(want int) {
	b.Helper()
	if got := b.e.Sweep(); got != want {
		b.Errorf("Sweep: %d, not %d", got, want)
	}
}

func TestSweepAsksLooseOnesNothing(t *testing.T) {
	b := empty(t)
	n := b.begins(api.Loose)
	b.put(api.Loose, 0, 1)
	b.put(api.Loose, 0, 2)
	b.sweeps(1)
	b.reads(n, 0, 2)
}

func TestSweepKeepsWhatOneThatWaitsReads(t *testing.T) {
	b := empty(t)
	b.put(api.Loose, 0, 1)
	n := b.begins(api.Steady)
	b.put(api.Loose, 0, 2)
	holder := b.begins(api.Loose)
	b.writes(holder, 1, 1)
	b.queues(n, 1, 2, holder)
	b.sweeps(0)
	b.aborts(holder)
	b.reads(n, 0, 1)
}

func TestHistoryKnowsSweptWriters(t *testing.T) {
	b := empty(t)
	first := b.put(api.Strict, 0, 1)
	n := b.begins(api.Strict)
	b.reads(n, 0, 1)
	b.commits(n)
	last := b.put(api.Strict, 0, 2)
	b.sweeps(1)
	b.did(w(first, 0), r(n, 0, first), w(last, 0))
}

func TestHistoryIsAsTheyWereCommitted(t *testing.T) {
	b := empty(t)
	one, other, gone, open := b.begins(api.Steady), b.begins(api.Strict), b.begins(api.Loose), b.begins(api.Loose)
	b.writes(one, 6, 1)
	b.writes(one, 2, 1)
	b.readsNot(one, 9, api.ErrNone)
	b.readsNot(one, 0, api.ErrNone)
	b.readsNot(one, 9, api.ErrNone)
	b.writes(other, 5, 1)
	b.writes(gone, 4, 1)
	b.writes(open, 3, 1)
	b.commits(other)
	b.aborts(gone)
	b.commits(one)
	b.did(w(other, 5), r(one, 9, 0), r(one, 0, 0), r(one, 9, 0), w(one, 2), w(one, 6))
}

func TestAnswersAreTheCallers(t *testing.T) {
	b := empty(t)
	n := b.begins(api.Loose)
	b.readsNot(n, 0, api.ErrNone)
	b.writes(n, 1, 5)
	own, err := b.e.Writes(n)
	if err != nil || len(own) != 1 {
		t.Fatalf("Writes: %v, %v", own, err)
	}
	own[0] = pair(7, 7)
	b.wrote(n, pair(1, 5))
	b.commits(n)
	all, ops := b.e.All(), b.e.History()
	if len(all) != 1 || len(ops) != 2 {
		t.Fatalf("All %v, History %v", all, ops)
	}
	all[0] = pair(7, 7)
	ops[0], ops[1] = w(7, 7), w(8, 8)
	_ = append(ops[:1], w(9, 9))
	b.has(1, 1, pair(1, 5))
	b.did(r(n, 0, 0), w(n, 1))
	b.wrote(n, pair(1, 5))
}
