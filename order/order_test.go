package order_test

import (
	"errors"
	"fmt"
	"math"
	"slices"
	"testing"

	"interleaf/api"
	"interleaf/order"
	"interleaf/plain"
)

// nowhere is the place of an error that has none.
const nowhere = -1

// w is a write of a key.
func w(tx, key int) api.Op { return api.Op{Tx: tx, Key: key, Write: true} }

// r is a read of a key, as one wrote it.
func r(tx, key, from int) api.Op { return api.Op{Tx: tx, Key: key, From: from} }

// two is that one is ahead of another one.
func two(one, other int) api.Write { return api.Write{Key: one, Value: other} }

// edges holds the twos of ops against what they must be.
func edges(t *testing.T, l []api.Op, want ...api.Write) {
	t.Helper()
	if got, err := order.Edges(l); err != nil || !slices.Equal(got, want) {
		t.Errorf("Edges(%v): %v, %v, not %v", l, got, err, want)
	}
}

// line holds the line of ops against what it must be.
func line(t *testing.T, l []api.Op, want ...int) {
	t.Helper()
	if got, err := order.Line(l); err != nil || !slices.Equal(got, want) {
		t.Errorf("Line(%v): %v, %v, not %v", l, got, err, want)
	}
}

// round asks for a line that there is not, though there are twos.
func round(t *testing.T, l ...api.Op) {
	t.Helper()
	if _, err := order.Edges(l); err != nil {
		t.Errorf("Edges(%v): %v", l, err)
	}
	got, err := order.Line(l)
	if e, place := plain.Place(err); len(got) != 0 || e != api.ErrCycle || place != nowhere {
		t.Errorf("Line(%v): %v, error %d at %d, not round", l, got, e, place)
	}
}

// fails asks for the twos, and the line, of ops that may not be: both tell the same.
func fails(t *testing.T, l []api.Op, want api.Errno, place int) {
	t.Helper()
	twos, err := order.Edges(l)
	if e, p := plain.Place(err); len(twos) != 0 || e != want || p != place {
		t.Errorf("Edges(%v): %v, error %d at %d, not %d at %d", l, twos, e, p, want, place)
	}
	got, err := order.Line(l)
	if e, p := plain.Place(err); len(got) != 0 || e != want || p != place {
		t.Errorf("Line(%v): %v, error %d at %d, not %d at %d", l, got, e, p, want, place)
	}
}

// 3.1: errors.

func TestBeyondWhatThereIs(t *testing.T) {
	for _, n := range []int{math.MinInt, -1, 0} {
		fails(t, []api.Op{w(n, 3)}, api.ErrRange, 0)
		fails(t, []api.Op{r(n, 3, 0)}, api.ErrRange, 0)
	}
	for _, from := range []int{math.MinInt, -1} {
		fails(t, []api.Op{r(1, 3, from)}, api.ErrRange, 0)
		fails(t, []api.Op{{Tx: 1, Key: 3, Write: true, From: from}}, api.ErrRange, 0) // of a write, too
	}
	for _, key := range []int{math.MinInt, -1, api.MaxKeys, math.MaxInt} {
		fails(t, []api.Op{w(1, key)}, api.ErrRange, 0)
		fails(t, []api.Op{r(1, key, 0)}, api.ErrRange, 0)
		fails(t, []api.Op{r(1, key, 2)}, api.ErrRange, 0)
	}
}

func TestTheFirstOneBeyondIsTold(t *testing.T) {
	good := w(1, 0)
	for _, bad := range []api.Op{w(0, 0), r(1, 0, -1), w(1, api.MaxKeys), w(1, -1)} {
		fails(t, []api.Op{good, good, bad}, api.ErrRange, 2)
		fails(t, []api.Op{good, bad, good, bad}, api.ErrRange, 1)
	}
	fails(t, []api.Op{good, r(1, 0, -1), w(0, 0), w(1, -1)}, api.ErrRange, 1) // whatever is beyond
	fails(t, []api.Op{good, w(1, -1), r(1, 0, -1), w(0, 0)}, api.ErrRange, 1)
}

func TestAReadOfNoWrite(t *testing.T) {
	fails(t, []api.Op{r(1, 3, 2)}, api.ErrArg, 0)
	fails(t, []api.Op{r(1, 3, 1)}, api.ErrArg, 0) // of itself
	fails(t, []api.Op{w(2, 4), w(1, 3), r(1, 3, 2)}, api.ErrArg, 2)
	fails(t, []api.Op{w(2, 4), r(2, 3, 0), r(1, 3, 2)}, api.ErrArg, 2) // who read it is no writer
	fails(t, []api.Op{w(1, 3), r(1, 3, math.MaxInt)}, api.ErrArg, 1)
	fails(t, []api.Op{w(1, 3), r(2, 3, 1), r(2, 3, 5), r(2, 3, 6)}, api.ErrArg, 2) // the first one
	fails(t, []api.Op{w(1, 3), r(2, 3, 0), r(2, 4, 1), w(2, 3)}, api.ErrArg, 2)
}

func TestWhatIsBeyondIsToldFirst(t *testing.T) {
	fails(t, []api.Op{r(1, 3, 2), w(1, 1), w(0, 1)}, api.ErrRange, 2)
	fails(t, []api.Op{r(1, 3, 2), r(1, 3, -1)}, api.ErrRange, 1)
	fails(t, []api.Op{w(1, 1), r(1, 3, 2), w(1, api.MaxKeys)}, api.ErrRange, 2)
}

func TestAnErrorIsToldAheadOfRound(t *testing.T) {
	ring := []api.Op{w(1, 0), w(2, 0), w(1, 0)}
	round(t, ring...)
	fails(t, append(ring, r(3, 0, 4)), api.ErrArg, 3)
	fails(t, append(ring, r(3, 10, 0)), api.ErrRange, 3)
}

func TestTheFromOfAWriteIsNotAsked(t *testing.T) {
	l := []api.Op{w(1, 3), {Tx: 2, Key: 3, Write: true, From: 7}}
	edges(t, l, two(1, 2))
	line(t, l, 1, 2)
}

func TestTheEdgesAreTaken(t *testing.T) {
	const most = math.MaxInt
	l := []api.Op{w(most, 0), r(1, 0, most), w(most-1, api.MaxKeys-1), r(most, api.MaxKeys-1, 0)}
	edges(t, l, two(most, 1), two(most, most-1))
	line(t, l, most, 1, most-1)
	edges(t, []api.Op{w(1, 0), w(most, 0), r(most, 0, 0)}, two(1, most), two(most, 1))
}

// 3.1: who is ahead of whom.

func TestNothingHasNoTwos(t *testing.T) {
	edges(t, nil)
	edges(t, []api.Op{})
	line(t, nil)
	line(t, []api.Op{})
}

func TestAWriterIsAheadOfTheNextOne(t *testing.T) {
	edges(t, []api.Op{w(2, 5)})
	edges(t, []api.Op{w(2, 5), w(1, 5)}, two(2, 1))
	edges(t, []api.Op{w(2, 5), w(1, 5), w(3, 5)}, two(1, 3), two(2, 1)) // not of those behind the next one
	edges(t, []api.Op{w(2, 5), w(1, 5), w(2, 5)}, two(1, 2), two(2, 1))
	edges(t, []api.Op{w(2, 5), w(1, 4), w(3, 5), w(4, 4)}, two(1, 4), two(2, 3)) // key by key
	edges(t, []api.Op{w(2, 5), w(1, 4)})
}

func TestAWriterThatFollowsItselfCountsOnce(t *testing.T) {
	edges(t, []api.Op{w(2, 5), w(2, 5)})
	edges(t, []api.Op{w(2, 5), w(2, 5), w(1, 5), w(1, 5)}, two(2, 1))
	edges(t, []api.Op{w(2, 5), w(1, 4), w(2, 5), r(3, 5, 2), w(2, 5)}, two(2, 3)) // of other keys, and reads, between
	edges(t, []api.Op{r(3, 5, 2), w(2, 5), w(2, 5), w(4, 5)}, two(2, 3), two(2, 4), two(3, 4))
}

func TestAReadIsBehindWhatItIsOf(t *testing.T) {
	edges(t, []api.Op{w(2, 5), r(1, 5, 2)}, two(2, 1))
	edges(t, []api.Op{r(1, 5, 2), w(2, 5)}, two(2, 1)) // wherever it stands
	edges(t, []api.Op{w(2, 5), r(2, 5, 2)})            // nobody is ahead of itself
	edges(t, []api.Op{w(3, 5), w(2, 5), r(1, 5, 2)}, two(2, 1), two(3, 2))
}

func TestAReadIsAheadOfTheWriterBehind(t *testing.T) {
	edges(t, []api.Op{w(2, 5), w(3, 5), r(1, 5, 2)}, two(1, 3), two(2, 1), two(2, 3))
	edges(t, []api.Op{w(2, 5), w(3, 5), w(4, 5), r(1, 5, 2)}, two(1, 3), two(2, 1), two(2, 3), two(3, 4))
	edges(t, []api.Op{w(2, 5), w(3, 5), r(3, 5, 2)}, two(2, 3))                     // the writer behind is itself
	edges(t, []api.Op{w(2, 5), w(3, 5), w(4, 5), r(3, 5, 2)}, two(2, 3), two(3, 4)) // the one behind that is of no account to the read
	edges(t, []api.Op{w(2, 5), w(3, 5), w(2, 5), r(2, 5, 2)}, two(2, 3), two(3, 2)) // it is what it reads
	edges(t, []api.Op{w(2, 5), w(2, 5), w(3, 5), r(1, 5, 2)}, two(1, 3), two(2, 1), two(2, 3))
	edges(t, []api.Op{w(2, 5), w(3, 4), r(1, 5, 2)}, two(2, 1)) // a writer of another key is not behind
}

func TestAReadOfNobodyIsAheadOfTheFirstWriter(t *testing.T) {
	edges(t, []api.Op{r(1, 5, 0)})
	edges(t, []api.Op{r(1, 5, 0), w(2, 4)})
	edges(t, []api.Op{r(1, 5, 0), w(2, 5)}, two(1, 2))
	edges(t, []api.Op{w(2, 5), r(1, 5, 0)}, two(1, 2)) // wherever it stands
	edges(t, []api.Op{w(2, 5), r(2, 5, 0)})
	edges(t, []api.Op{w(2, 5), w(3, 5), r(1, 5, 0)}, two(1, 2), two(2, 3))
	edges(t, []api.Op{w(2, 5), w(3, 5), r(3, 5, 0)}, two(2, 3), two(3, 2))
}

func TestAReadIsOfTheFirstTimeOfItsWriter(t *testing.T) {
	edges(t, []api.Op{w(2, 5), w(3, 5), w(2, 5), w(4, 5), r(1, 5, 2)}, two(1, 3), two(2, 1), two(2, 3), two(2, 4), two(3, 2))
	edges(t, []api.Op{w(2, 5), w(3, 5), w(2, 5), r(1, 5, 2)}, two(1, 3), two(2, 1), two(2, 3), two(3, 2))
}

func TestTwosRiseAndAreOnce(t *testing.T) {
	edges(t, []api.Op{w(11, 1), w(9, 1), w(10, 2), w(2, 2), w(9, 3), w(2, 3), w(9, 4), w(11, 4)},
		two(9, 2), two(9, 11), two(10, 2), two(11, 9))
	edges(t, []api.Op{w(1, 1), w(2, 1), w(1, 2), w(2, 2), r(2, 1, 1), r(2, 1, 1), r(1, 2, 0)}, two(1, 2))
}

// 3.2: Line.

func TestLineOfTheDocument(t *testing.T) {
	l := []api.Op{r(2, 1, 0), w(2, 2), w(1, 1)} // DOC.md, example 3
	edges(t, l, two(2, 1))
	line(t, l, 2, 1)
}

func TestAllStandInLineOnce(t *testing.T) {
	line(t, []api.Op{w(7, 1)}, 7)
	line(t, []api.Op{r(7, 1, 0)}, 7)
	line(t, []api.Op{w(7, 1), r(7, 1, 7), w(7, 2), r(7, 3, 0)}, 7)
	line(t, []api.Op{r(9, 1, 0), w(3, 2), r(10, 3, 0), w(3, 4)}, 3, 9, 10) // also who is in no two
}

func TestTheLeastOneComesNext(t *testing.T) {
	line(t, []api.Op{w(5, 1), w(4, 2), w(3, 3)}, 3, 4, 5)
	line(t, []api.Op{w(3, 1), w(1, 1), w(2, 2)}, 2, 3, 1)             // who may come later does not wait
	line(t, []api.Op{w(5, 1), w(1, 1), w(4, 2), w(2, 2)}, 4, 2, 5, 1) // as soon as it may
	line(t, []api.Op{w(4, 1), w(1, 1), w(1, 2), w(3, 2), w(2, 3)}, 2, 4, 1, 3)
	line(t, []api.Op{w(4, 1), w(2, 1), w(4, 2), w(1, 2), w(4, 3), w(3, 3)}, 4, 1, 2, 3)
}

func TestOneWaitsForAllThatAreAhead(t *testing.T) {
	line(t, []api.Op{w(2, 1), w(1, 1), w(3, 2), w(1, 2), w(4, 3), w(1, 3)}, 2, 3, 4, 1)
	line(t, []api.Op{w(2, 1), w(1, 1), w(2, 2), w(1, 2), r(1, 1, 2)}, 2, 1) // ahead in many ways is ahead once
}

func TestRound(t *testing.T) {
	round(t, w(1, 0), w(2, 0), w(1, 0))
	round(t, w(1, 0), w(2, 0), w(2, 1), w(1, 1))
	round(t, r(1, 0, 0), w(1, 1), r(2, 1, 0), w(2, 0)) // each reads what the other one writes
	round(t, w(1, 0), r(2, 0, 1), w(2, 1), r(1, 1, 2))
	round(t, w(1, 0), w(2, 0), w(2, 1), w(3, 1), w(3, 2), w(1, 2))
	round(t, w(1, 5), w(2, 0), w(3, 0), w(2, 0))          // though one may stand
	round(t, w(4, 5), w(2, 5), w(2, 0), w(3, 0), w(2, 0)) // ahead of the ring
	round(t, w(2, 0), w(3, 0), w(2, 0), w(2, 5), w(1, 5)) // behind it
	line(t, []api.Op{w(1, 0), r(1, 0, 1), w(1, 0)}, 1)    // nobody is round alone
	line(t, []api.Op{w(1, 0), w(2, 0), w(1, 1), w(2, 1)}, 1, 2)
}

func TestALongChain(t *testing.T) {
	const many = 100_000
	var l []api.Op
	var want []int
	for tx := many; tx >= 1; tx-- {
		l = append(l, w(tx, 0), r(tx, 1, 0))
		want = append(want, tx)
	}
	if got, err := order.Line(l); err != nil || !slices.Equal(got, want) {
		t.Errorf("%d long, %v", len(got), err)
	}
	if got, err := order.Line(append(l, w(many, 0))); len(got) != 0 || !errors.Is(err, api.ErrCycle) {
		t.Errorf("%d long, %v, though its end is its beginning", len(got), err)
	}
}

func TestAWideFan(t *testing.T) {
	const many = 100_000
	l := []api.Op{w(many, 0)}
	want := []int{many}
	for tx := many - 1; tx >= 1; tx-- {
		l = append(l, r(tx, 0, many))
		want = append(want, many-tx)
	}
	if got, err := order.Line(l); err != nil || !slices.Equal(got, want) {
		t.Errorf("%d long, %v", len(got), err)
	}
}

// P3: errors.

func TestErrorsAreOfTheirKind(t *testing.T) {
	_, err := order.Line([]api.Op{w(1, 0), r(1, 0, 2)})
	var at *api.At
	if !errors.As(err, &at) || !errors.Is(err, api.ErrArg) || *at != (api.At{Err: api.ErrArg, Place: 1}) {
		t.Errorf("%v: not an At of ErrArg at 1", err)
	}
	_, err = order.Line([]api.Op{w(1, 0), w(2, 0), w(1, 0)})
	if errors.As(err, &at) || !errors.Is(err, api.ErrCycle) {
		t.Errorf("%v: not ErrCycle alone", err)
	}
}

// P4: lists.

func TestListsThatAreHandedInStayTheirs(t *testing.T) {
	whole := []api.Op{w(3, 2), r(2, 2, 3), w(1, 2), w(0, 99), r(9, 9, 9)}
	kept := slices.Clone(whole)
	edges(t, whole[:3], two(2, 1), two(3, 1), two(3, 2)) // what stands behind the length is not asked
	line(t, whole[:3], 3, 2, 1)
	if !slices.Equal(whole, kept) {
		t.Errorf("a list was written into: %v", whole)
	}
}

func TestListsThatComeOutAreTheCallers(t *testing.T) {
	l := []api.Op{w(3, 2), r(2, 2, 3), w(1, 2)}
	twos, _ := order.Edges(l)
	all, _ := order.Line(l)
	againTwos, _ := order.Edges(l)
	againAll, _ := order.Line(l)
	clear(twos)
	clear(all)
	twos = append(twos[:1], two(-1, -1))
	all = append(all[:1], -1)
	if !slices.Equal(againTwos, []api.Write{two(2, 1), two(3, 1), two(3, 2)}) || !slices.Equal(againAll, []int{3, 2, 1}) {
		t.Errorf("lists share: %v, %v", againTwos, againAll)
	}
	edges(t, l, two(2, 1), two(3, 1), two(3, 2))
	line(t, l, 3, 2, 1)
}

func TestTheSameOpsTellTheSame(t *testing.T) {
	var l []api.Op
	d := drawn(7)
	for range 60 {
		l = append(l, w(1+d.below(1000), d.below(api.MaxKeys)), r(1001+d.below(1000), d.below(api.MaxKeys), 0))
	}
	first := tells(order.Edges(l)) + tells(order.Line(l))
	for range 50 {
		if again := tells(order.Edges(l)) + tells(order.Line(l)); again != first {
			t.Fatalf("%s, not %s as before", again, first)
		}
	}
}

// 3.1, 3.2: drawn ops, against the document's words taken one by one.

// tells is an answer as a text.
func tells[T any](l []T, err error) string {
	e, place := plain.Place(err)
	return fmt.Sprint(l, " error ", int(e), " at ", place, ";")
}

// drawn are numbers that look drawn, the same each time.
type drawn uint64

func (d *drawn) below(n int) int {
	*d = *d*6364136223846793005 + 1442695040888963407
	return int(uint64(*d>>33) % uint64(n))
}

// ops are some, of few Txs and keys, now and then wrong.
func (d *drawn) ops() []api.Op {
	var l []api.Op
	txs, keys := 1+d.below(6), 1+d.below(4)
	for range d.below(16) {
		o := api.Op{Tx: 1 + d.below(txs), Key: d.below(keys), Write: d.below(2) == 0}
		if wrote := writersOf(l, o.Key); !o.Write && len(wrote) > 0 && d.below(3) > 0 {
			o.From = wrote[d.below(len(wrote))]
		}
		switch d.below(150) {
		case 0:
			o.Tx = -d.below(2)
		case 1:
			o.Key = api.MaxKeys
		case 2:
			o.From = -1
		case 3, 4:
			o.From = 1 + d.below(txs)
		}
		l = append(l, o)
	}
	return l
}

// writersOf are the Txs of a key's writes, one that follows itself once.
func writersOf(l []api.Op, key int) (all []int) {
	for _, o := range l {
		if o.Write && o.Key == key {
			all = append(all, o.Tx)
		}
	}
	return slices.Compact(all)
}

// wrong is the error of ops, and its place.
func wrong(l []api.Op) error {
	for i, o := range l {
		if o.Tx < 1 || o.From < 0 || o.Key < 0 || o.Key >= api.MaxKeys {
			return &api.At{Err: api.ErrRange, Place: i}
		}
	}
	for i, o := range l {
		if !o.Write && o.From != 0 && !slices.Contains(writersOf(l, o.Key), o.From) {
			return &api.At{Err: api.ErrArg, Place: i}
		}
	}
	return nil
}

// isAhead says whether one must be ahead of another one.
func isAhead(l []api.Op, one, other int) bool {
	if one == other {
		return false
	}
	for key := range api.MaxKeys {
		all := writersOf(l, key)
		for i := 1; i < len(all); i++ {
			if all[i-1] == one && all[i] == other {
				return true
			}
		}
	}
	return slices.ContainsFunc(l, func(o api.Op) bool {
		if o.Write {
			return false
		}
		if o.From == one && o.Tx == other {
			return true
		}
		all := append([]int{0}, writersOf(l, o.Key)...) // as if nobody had written first
		behind := all[slices.Index(all, o.From)+1:]
		return o.Tx == one && len(behind) > 0 && behind[0] == other
	})
}

// txsOf are the Txs of ops, rising.
func txsOf(l []api.Op) (txs []int) {
	for _, o := range l {
		txs = append(txs, o.Tx)
	}
	slices.Sort(txs)
	return slices.Compact(txs)
}

// modelEdges tries all twos.
func modelEdges(l []api.Op) (twos []api.Write, err error) {
	if err := wrong(l); err != nil {
		return nil, err
	}
	for _, one := range txsOf(l) {
		for _, other := range txsOf(l) {
			if isAhead(l, one, other) {
				twos = append(twos, two(one, other))
			}
		}
	}
	return twos, nil
}

// modelLine tries all lines, the least first.
func modelLine(l []api.Op) ([]int, error) {
	twos, err := modelEdges(l)
	if err != nil {
		return nil, err
	}
	if found, ok := lined(nil, txsOf(l), twos); ok {
		return found, nil
	}
	return nil, api.ErrCycle
}

// lined is the least line of those that stand, then of those that are left, in which all that must be ahead are.
func lined(stand, left []int, twos []api.Write) ([]int, bool) {
	if len(left) == 0 {
		return stand, !slices.ContainsFunc(twos, func(w api.Write) bool {
			return slices.Index(stand, w.Key) > slices.Index(stand, w.Value)
		})
	}
	for i := range left {
		if found, ok := lined(append(slices.Clone(stand), left[i]), slices.Delete(slices.Clone(left), i, i+1), twos); ok {
			return found, true
		}
	}
	return nil, false
}

func TestAgainstTheWordsOfTheDocument(t *testing.T) {
	d := drawn(3)
	told := map[api.Errno]int{}
	for range 3000 {
		l := d.ops()
		if got, want := tells(order.Edges(l)), tells(modelEdges(l)); got != want {
			t.Fatalf("Edges(%v): %s, not %s", l, got, want)
		}
		all, err := order.Line(l)
		if got, want := tells(all, err), tells(modelLine(l)); got != want {
			t.Fatalf("Line(%v): %s, not %s", l, got, want)
		}
		told[api.Tell(err)]++
	}
	for _, e := range []api.Errno{api.OK, api.ErrRange, api.ErrArg, api.ErrCycle} {
		if told[e] < 50 {
			t.Errorf("error %d was told %d times: too few to try it", e, told[e])
		}
	}
}
