package base_test

import (
	"fmt"
	"math"
	"slices"
	"testing"

	"interleaf/api"
	"interleaf/base"
	"interleaf/plain"
)

// nowhere is the place of an error that has none.
const nowhere = -1

// bench is a base over a disk that is held against what it must tell.
type bench struct {
	*testing.T
	d *base.Disk
	b *base.Base
}

// empty is a bench with a base over a disk's zero value.
func empty(t *testing.T) bench {
	t.Helper()
	return bench{t, &base.Disk{}, nil}.opens()
}

// opens is a bench with another base over the same disk.
func (b bench) opens() bench {
	b.Helper()
	var err error
	b.b, err = base.Open(b.d)
	if b.b == nil || err != nil {
		b.Fatalf("Open: %v, %v", b.b, err)
	}
	return b
}

// begins begins one of a level.
func (b bench) begins(level int) int {
	b.Helper()
	n, err := b.b.Engine().Begin(level)
	if err != nil {
		b.Fatalf("Begin(%d): %v", level, err)
	}
	return n
}

// has begins a loose one that writes.
func (b bench) has(l ...api.Write) int {
	b.Helper()
	n := b.begins(api.Loose)
	for _, w := range l {
		b.writes(n, w.Key, w.Value)
	}
	return n
}

// writes lets one write what it may.
func (b bench) writes(n, key, value int) {
	b.Helper()
	if done, err := b.b.Engine().Write(n, key, value); !done || err != nil {
		b.Fatalf("Write(%d, %d, %d): %v, %v, not true", n, key, value, done, err)
	}
}

// queues lets one write what another one holds.
func (b bench) queues(n, key, value int) {
	b.Helper()
	if done, err := b.b.Engine().Write(n, key, value); done || err != nil {
		b.Fatalf("Write(%d, %d, %d): %v, %v, not false", n, key, value, done, err)
	}
}

// commits asks for a commit, and holds the error against what it must be, and that it has no place.
func (b bench) commits(n int, want api.Errno) {
	b.Helper()
	tells(b.T, fmt.Sprintf("Commit(%d)", n), b.b.Commit(n), want)
}

// tells holds an error against what it must be.
func tells(t *testing.T, what string, err error, want api.Errno) {
	t.Helper()
	if e, place := plain.Place(err); e != want || place != nowhere {
		t.Errorf("%s: error %d at %d, not %d", what, e, place, want)
	}
	if want == api.OK && err != nil {
		t.Errorf("%s: an error that is none", what)
	}
}

// is holds the state of one against what it must be.
func (b bench) is(n, state int, why api.Errno) {
	b.Helper()
	if s, w, err := b.b.Engine().State(n); s != state || w != why || err != nil {
		b.Errorf("State(%d): %d, %d, %v, not %d, %d", n, s, w, err, state, why)
	}
}

// used holds Used, Last and Down against what they must be: what was not committed by the engine alone is at Used.
func (b bench) used(want int, down bool) {
	b.Helper()
	if used, last := b.b.Used(), b.b.Engine().Last(); used != want || last != want || b.b.Down() != down {
		b.Errorf("Used %d, Last %d, Down %v, not %d, %v", used, last, b.b.Down(), want, down)
	}
}

// all holds what each key has, as the engine tells it, against what it must be.
func (b bench) all(want ...api.Write) {
	b.Helper()
	if l := b.b.Engine().All(); !slices.Equal(l, want) {
		b.Errorf("All: %v, not %v", l, want)
	}
}

// outlives opens the disk anew: so many commits come to that.
func (b bench) outlives(used int, want ...api.Write) bench {
	b.Helper()
	later := b.opens()
	later.used(used, false)
	later.all(want...)
	return later
}

// keyThree lets key 3 have a value.
func keyThree(value int) api.Write { return api.Write{Key: 3, Value: value} }

// 5.1: a Disk, and Open.

func TestZeroDiskIsEmptyAndHasPower(t *testing.T) {
	b := empty(t)
	b.used(0, false)
	b.all()
	if e := b.b.Engine(); e.Txs() != 0 || e.Many() != 0 || len(e.History()) != 0 {
		t.Errorf("an engine over an empty disk has something")
	}
	b.commits(b.has(keyThree(7)), api.OK)
	b.used(1, false)
}

func TestOpenOfNoDisk(t *testing.T) {
	b, err := base.Open(nil)
	tells(t, "Open(nil)", err, api.ErrMissing)
	if b != nil {
		t.Errorf("Open(nil): a base beside an error")
	}
}

func TestOpenHasWhatAllCommitsComeTo(t *testing.T) {
	b := empty(t)
	b.commits(b.has(keyThree(7), api.Write{Key: 9, Value: 1}), api.OK)
	b.outlives(1, keyThree(7), api.Write{Key: 9, Value: 1})
	b.commits(b.has(keyThree(8)), api.OK)
	b.outlives(2, keyThree(8), api.Write{Key: 9, Value: 1})
	b.commits(b.has(api.Write{Key: 0, Value: -5}, api.Write{Key: 9, Value: 0}), api.OK)
	later := b.outlives(3, api.Write{Key: 0, Value: -5}, keyThree(8), api.Write{Key: 9, Value: 0})
	if many := later.b.Engine().Many(); many != 3 {
		t.Errorf("Many: %d: each key has one version, as of Used", many)
	}
	n := later.begins(api.Strict)
	if value, err := later.b.Engine().Read(n, 3); value != 8 || err != nil {
		t.Errorf("Read(%d, 3): %d, %v, not 8", n, value, err)
	}
	later.commits(n, api.OK)
	if l := later.b.Engine().History(); !slices.Equal(l, []api.Op{{Tx: n, Key: 3}}) {
		t.Errorf("History: %v: nobody of the engine wrote what was there", l)
	}
}

func TestOpenHasEveryKeyAndTheUtmostValues(t *testing.T) {
	for _, value := range []int{-api.MaxNumber, -api.MaxNumber + 1, -256, -1, 0, 1, 255, 256, math.MaxInt32, api.MaxNumber - 1, api.MaxNumber} {
		b := empty(t)
		var l []api.Write
		for key := range api.MaxKeys {
			l = append(l, api.Write{Key: key, Value: value})
		}
		b.commits(b.has(l...), api.OK)
		b.outlives(1, l...)
	}
}

func TestOpenHasTheLastWriteOfAKey(t *testing.T) {
	b := empty(t)
	b.commits(b.has(keyThree(7), keyThree(9), keyThree(8)), api.OK)
	b.outlives(1, keyThree(8))
}

func TestOpenHasNoTransactions(t *testing.T) {
	b := empty(t)
	b.commits(b.has(keyThree(7)), api.OK)
	b.has(keyThree(8)) // not over
	gone := b.has(api.Write{Key: 4, Value: 1})
	if err := b.b.Engine().Abort(gone); err != nil {
		t.Fatal(err)
	}
	later := b.outlives(1, keyThree(7))
	if n := later.b.Engine().Txs(); n != 0 {
		t.Errorf("Txs: %d", n)
	}
	tells(t, "Commit of one of another base", later.b.Commit(2), api.ErrMissing)
	later.commits(later.has(keyThree(9)), api.OK) // nobody holds the key
	later.outlives(2, keyThree(9))
}

func TestOpenNeedsNoPowerAndChangesNone(t *testing.T) {
	b := empty(t)
	b.commits(b.has(keyThree(7)), api.OK)
	b.d.Cut(0)
	b.outlives(1, keyThree(7))
	later := b.outlives(1, keyThree(7))
	later.commits(later.has(keyThree(8)), api.ErrDevice)

	b = empty(t)
	b.d.Cut(1)
	b.opens()
	b = b.opens()
	b.commits(b.has(keyThree(7)), api.OK)
	b.commits(b.has(keyThree(8)), api.ErrDevice)
}

func TestEngineIsOne(t *testing.T) {
	b := empty(t)
	e := b.b.Engine()
	b.commits(b.has(keyThree(7)), api.OK)
	if b.b.Engine() != e || e.Last() != 1 {
		t.Errorf("the engine is another one behind a commit")
	}
	if b.opens().b.Engine() == e {
		t.Errorf("two bases have one engine")
	}
}

// 5.1: Cut.

func TestCutIsBehindSoManyWrites(t *testing.T) {
	cases := []struct {
		cuts []int
		good int // how many commits may be written then, at most 6
	}{
		{nil, 6},
		{[]int{0}, 0},
		{[]int{1}, 1},
		{[]int{2}, 2},
		{[]int{5}, 5},
		{[]int{6}, 6},
		{[]int{math.MaxInt}, 6},
		{[]int{-1}, 6},
		{[]int{math.MinInt}, 6},
		{[]int{0, -1}, 6},
		{[]int{3, -7}, 6},
		{[]int{0, 2}, 2},
		{[]int{5, 1}, 1},
		{[]int{-1, 4}, 4},
		{[]int{-1, 0}, 0},
	}
	for _, c := range cases {
		b := empty(t)
		for _, cut := range c.cuts {
			b.d.Cut(cut)
		}
		for i := range 6 {
			want := api.OK
			if i == c.good {
				want = api.ErrDevice
			}
			if i > c.good {
				want = api.ErrState
			}
			b.commits(b.has(api.Write{Key: i, Value: i}), want)
		}
		b.used(c.good, c.good < 6)
		if got := b.opens().b.Used(); got != c.good {
			t.Errorf("Cut %v: %d commits were written, not %d", c.cuts, got, c.good)
		}
	}
}

func TestCutCountsFromThen(t *testing.T) {
	b := empty(t)
	b.d.Cut(2)
	b.commits(b.has(keyThree(1)), api.OK)
	b.d.Cut(2)
	b.commits(b.has(keyThree(2)), api.OK)
	b.commits(b.has(keyThree(3)), api.OK)
	b.commits(b.has(keyThree(4)), api.ErrDevice)
	b.outlives(3, keyThree(3))
}

func TestPowerStaysOffUntilItIsOn(t *testing.T) {
	b := empty(t)
	b.d.Cut(1)
	b.commits(b.has(keyThree(1)), api.OK)
	for range 3 {
		later := b.outlives(1, keyThree(1))
		later.commits(later.has(keyThree(2)), api.ErrDevice)
		later.used(1, true)
	}
	b.d.Cut(-1)
	for i := range 3 {
		later := b.opens()
		later.commits(later.has(keyThree(5+i)), api.OK)
		later.outlives(2+i, keyThree(5+i))
	}
}

func TestOnlyWhatIsWrittenIsCounted(t *testing.T) {
	b := empty(t)
	b.d.Cut(1)
	b.commits(b.begins(api.Loose), api.OK) // it wrote nothing
	b.commits(99, api.ErrMissing)
	holder := b.has(keyThree(1))
	waiter := b.begins(api.Loose)
	b.queues(waiter, 3, 2)
	b.commits(waiter, api.ErrState)
	b.used(0, false)
	b.commits(holder, api.OK)
	b.commits(waiter, api.ErrDevice)
	b.outlives(1, keyThree(1))
}

// 5.1: Down.

func TestDownIsOfWhoWasTold(t *testing.T) {
	b := empty(t)
	other := b.opens()
	b.d.Cut(0)
	b.used(0, false) // nobody was told yet
	b.commits(b.has(keyThree(7)), api.ErrDevice)
	b.used(0, true)
	other.used(0, false)
	b.outlives(0)
	b.d.Cut(-1)
	b.used(0, true)
	other.commits(other.has(keyThree(8)), api.OK)
	other.used(1, false)
	b.used(0, true)
}

// 5.2: Commit.

func TestCommitIsWrittenAndCounts(t *testing.T) {
	for _, level := range []int{api.Loose, api.Steady, api.Strict} {
		b := empty(t)
		n := b.begins(level)
		b.writes(n, 3, 7)
		b.used(0, false)
		b.all()
		b.commits(n, api.OK)
		b.is(n, api.Committed, api.OK)
		b.used(1, false)
		b.all(keyThree(7))
		b.outlives(1, keyThree(7))
		b.commits(n, api.ErrState)
		b.used(1, false)
	}
}

func TestCommitLetsWhoWaitsGoOn(t *testing.T) {
	b := empty(t)
	holder := b.has(keyThree(7))
	loose, steady := b.begins(api.Loose), b.begins(api.Steady)
	b.queues(loose, 3, 8)
	b.queues(steady, 3, 9)
	b.commits(holder, api.OK)
	b.is(loose, api.Open, api.OK)
	b.is(steady, api.Waits, api.OK)
	b.commits(loose, api.OK)
	b.is(steady, api.Gone, api.ErrOrder)
	b.used(2, false)
	b.outlives(2, keyThree(8))
}

// states are ways in which a base cannot write, and one in which it can.
func states(t *testing.T) map[string]bench {
	off, down, back, full := empty(t), empty(t), empty(t), filled(t)
	off.d.Cut(0)
	for _, b := range []bench{down, back} {
		b.d.Cut(0)
		n := b.has(api.Write{Key: 9, Value: 9})
		b.commits(n, api.ErrDevice)
		if err := b.b.Engine().Abort(n); err != nil {
			t.Fatal(err)
		}
	}
	back.d.Cut(-1)
	return map[string]bench{"on": empty(t), "off": off, "down": down, "back": back, "full": full}
}

// filled is a bench with a disk on which MaxLog commits are: the last one let key 3 be MaxLog.
func filled(t *testing.T) bench {
	t.Helper()
	b := empty(t)
	for i := range api.MaxLog {
		if i%150 == 120 { // an engine has no more than MaxTxs
			b = b.outlives(i, keyThree(i))
		}
		b.commits(b.has(keyThree(i+1)), api.OK)
	}
	b.used(api.MaxLog, false)
	return b
}

func TestCommitOfNone(t *testing.T) {
	for what, b := range states(t) {
		used, down := b.b.Used(), b.b.Down()
		for _, n := range []int{math.MinInt, -1, 0, b.b.Engine().Txs() + 1, math.MaxInt} {
			tells(t, fmt.Sprintf("%s: Commit(%d)", what, n), b.b.Commit(n), api.ErrMissing)
		}
		b.used(used, down)
	}
}

func TestCommitOfWhoIsNotOpen(t *testing.T) {
	for what, b := range states(t) {
		used, down := b.b.Used(), b.b.Down()
		holder := b.has(api.Write{Key: 5, Value: 1})
		waiter := b.begins(api.Loose)
		b.queues(waiter, 5, 2)
		tells(t, what+": one that waits", b.b.Commit(waiter), api.ErrState)
		b.is(waiter, api.Waits, api.OK)
		if err := b.b.Engine().Abort(holder); err != nil {
			t.Fatal(err)
		}
		tells(t, what+": one that is gone", b.b.Commit(holder), api.ErrState)
		b.used(used, down)
	}
}

func TestCommitOfWhoCouldNotBeAnywhere(t *testing.T) {
	for what, b := range states(t) {
		used, down := b.b.Used(), b.b.Down()
		one, other := b.begins(api.Strict), b.begins(api.Strict)
		b.b.Engine().Read(one, 5)
		b.b.Engine().Read(other, 6)
		b.writes(one, 6, 1)
		b.writes(other, 5, 1)
		tells(t, what, b.b.Commit(one), api.ErrFalse)
		b.is(one, api.Gone, api.ErrFalse)
		b.used(used, down)
		b.opens().used(used, false)
	}
}

func TestCommitOfWhoWroteNothing(t *testing.T) {
	for what, b := range states(t) {
		used, down := b.b.Used(), b.b.Down()
		for _, level := range []int{api.Loose, api.Steady, api.Strict} {
			n := b.begins(level)
			b.b.Engine().Read(n, 5)
			tells(t, what, b.b.Commit(n), api.OK)
			b.is(n, api.Committed, api.OK)
			b.used(used, down)
			b.opens().used(used, false)
		}
	}
}

func TestCommitOfWhoWasDown(t *testing.T) {
	b := empty(t)
	b.commits(b.has(keyThree(7)), api.OK)
	b.d.Cut(0)
	n := b.has(keyThree(8))
	b.commits(n, api.ErrDevice)
	for _, cut := range []int{0, -1, 5} {
		b.d.Cut(cut)
		b.commits(n, api.ErrState)
		b.is(n, api.Open, api.OK)
		b.used(1, true)
		b.all(keyThree(7))
		b.outlives(1, keyThree(7))
	}
	// Down again and again writes nothing, torn or not.
	b.d.Cut(-1)
	b.b.Torn(9)
	b.commits(n, api.ErrState)
	later := b.outlives(1, keyThree(7))
	later.commits(later.has(keyThree(9)), api.OK)
	b.commits(n, api.ErrState)
	b.outlives(2, keyThree(9))
}

func TestCommitWithoutPowerChangesNothingElse(t *testing.T) {
	b := empty(t)
	b.commits(b.has(keyThree(7)), api.OK)
	n, steady := b.has(keyThree(8), api.Write{Key: 4, Value: 1}), b.begins(api.Steady)
	b.queues(steady, 3, 9)
	b.d.Cut(0)
	b.commits(n, api.ErrDevice)
	b.used(1, true)
	b.all(keyThree(7))
	b.is(n, api.Open, api.OK)
	b.is(steady, api.Waits, api.OK)
	e := b.b.Engine()
	if l, err := e.Writes(n); err != nil || !slices.Equal(l, []api.Write{keyThree(8), {Key: 4, Value: 1}}) {
		t.Errorf("Writes(%d): %v, %v", n, l, err)
	}
	if e.Waits(steady) != n || e.Many() != 1 || len(e.History()) != 1 {
		t.Errorf("the engine is another one: Waits %d, Many %d, History %v", e.Waits(steady), e.Many(), e.History())
	}
	b.outlives(1, keyThree(7))
	// The engine goes on: only what must be written is not.
	b.writes(n, 5, 1)
	if err := e.Abort(n); err != nil {
		t.Errorf("Abort(%d): %v", n, err)
	}
	b.is(steady, api.Open, api.OK)
}

func TestCommitOnAFullDisk(t *testing.T) {
	b := filled(t)
	b.outlives(api.MaxLog, keyThree(api.MaxLog))
	for _, full := range []bench{b, b.opens()} {
		for _, cut := range []int{-1, 0, 3} {
			full.d.Cut(cut)
			full.b.Torn(5)
			n := full.has(api.Write{Key: 4, Value: 1})
			full.commits(n, api.ErrLimit)
			full.is(n, api.Open, api.OK)
			full.used(api.MaxLog, false)
			full.all(keyThree(api.MaxLog))
			if err := full.b.Engine().Abort(n); err != nil {
				t.Fatal(err)
			}
		}
		full.outlives(api.MaxLog, keyThree(api.MaxLog))
	}
}

func TestTheLastPlaceIsUsedAndTorn(t *testing.T) {
	b := empty(t)
	for i := range api.MaxLog - 1 {
		if i%150 == 120 {
			b = b.opens()
		}
		b.commits(b.has(keyThree(i)), api.OK)
	}
	b.d.Cut(0)
	b.b.Torn(math.MaxInt)
	b.commits(b.has(keyThree(-1)), api.ErrDevice)
	b.d.Cut(-1)
	b = b.outlives(api.MaxLog-1, keyThree(api.MaxLog-2))
	b.commits(b.has(keyThree(-2)), api.OK)
	b.commits(b.has(keyThree(-3)), api.ErrLimit)
	b.outlives(api.MaxLog, keyThree(-2))
}

// 5.2: Torn.

func TestTornCommitCountsForNothing(t *testing.T) {
	commits := [][]api.Write{
		{keyThree(0)},
		{keyThree(8)},
		{keyThree(-api.MaxNumber), {Key: 9, Value: api.MaxNumber}},
		{{Key: 0}, {Key: 1}, {Key: 2}, {Key: 3}, {Key: 4}, {Key: 5}, {Key: 6}, {Key: 7}, {Key: 8}, {Key: 9}},
	}
	torn := []int{math.MinInt, -1, math.MaxInt}
	for n := range 400 {
		torn = append(torn, n)
	}
	for _, l := range commits {
		for _, n := range torn {
			b := empty(t)
			b.commits(b.has(keyThree(7)), api.OK)
			b.b.Torn(n)
			b.d.Cut(0)
			b.commits(b.has(l...), api.ErrDevice)
			b.d.Cut(-1)
			later := b.outlives(1, keyThree(7))
			later.commits(later.has(keyThree(9)), api.OK)
			later.outlives(2, keyThree(9))
		}
	}
}

func TestTornIsNothingWhereThereIsPower(t *testing.T) {
	for _, n := range []int{-1, 0, 1, 5, math.MaxInt} {
		b := empty(t)
		b.b.Torn(n)
		b.commits(b.has(keyThree(7)), api.OK)
		b.used(1, false)
		b.outlives(1, keyThree(7))
	}
}

// What is torn first must not make whole what is torn over it.
func TestTornOverTorn(t *testing.T) {
	long := []api.Write{{Key: 0, Value: 1}, {Key: 1, Value: 2}, {Key: 2, Value: 3}}
	for value := range 600 {
		b := empty(t)
		b.d.Cut(0)
		for _, l := range [][]api.Write{long, {keyThree(value)}, {keyThree(value)}, long} {
			b = b.outlives(0)
			b.b.Torn(math.MaxInt)
			b.commits(b.has(l...), api.ErrDevice)
		}
		b.outlives(0)
	}
}

// 5.2: several bases of one disk.

func TestElderBaseGoesOnWhileNoYoungerOneCommitted(t *testing.T) {
	elder := empty(t)
	elder.commits(elder.has(keyThree(1)), api.OK)
	young := elder.opens()
	elder.commits(elder.has(keyThree(2)), api.OK)
	elder.commits(elder.has(keyThree(3)), api.OK)
	elder.used(3, false)
	young.used(1, false)
	young.all(keyThree(1))
	third := elder.outlives(3, keyThree(3))
	third.commits(third.begins(api.Loose), api.OK) // nothing is written by that
	elder.commits(elder.has(keyThree(4)), api.OK)
	elder.outlives(4, keyThree(4))
}

func TestElderBaseGoesOnBehindATornYoungerOne(t *testing.T) {
	for torn := -1; torn < 40; torn++ {
		elder := empty(t)
		young := elder.opens()
		young.b.Torn(torn)
		young.d.Cut(0)
		young.commits(young.has(keyThree(1), api.Write{Key: 4, Value: 1}), api.ErrDevice)
		young.d.Cut(-1)
		elder.commits(elder.has(keyThree(2)), api.OK)
		elder.used(1, false)
		young.commits(young.has(api.Write{Key: 5, Value: 1}), api.ErrState)
		elder.outlives(1, keyThree(2))
	}
}

// The document lets only one commit that has all that is written: what another one asks must not lose that.
func TestWhatIsWrittenIsNotLostByABaseThatHasItNot(t *testing.T) {
	for _, cut := range []int{-1, 0, 5} {
		for torn := -1; torn < 40; torn += 8 {
			elder := empty(t)
			young := elder.opens()
			young.commits(young.has(keyThree(1)), api.OK)
			elder.d.Cut(cut)
			elder.b.Torn(torn)
			n := elder.has(keyThree(2))
			elder.commits(n, api.ErrState)
			elder.is(n, api.Open, api.OK)
			elder.used(0, false)
			elder.d.Cut(-1)
			young.outlives(1, keyThree(1))
			young.commits(young.has(keyThree(3)), api.OK)
			young.outlives(2, keyThree(3))
		}
	}
}

func TestTwoDisksAreTwo(t *testing.T) {
	one, other := empty(t), empty(t)
	one.d.Cut(0)
	other.commits(other.has(keyThree(1)), api.OK)
	one.commits(one.has(keyThree(2)), api.ErrDevice)
	one.outlives(0)
	other.outlives(1, keyThree(1))
}
