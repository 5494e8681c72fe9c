package store_test

import (
	"fmt"
	"math"
	"slices"
	"testing"

	"interleaf/api"
	"interleaf/plain"
	"interleaf/store"
)

// nowhere is the place of an error that has none.
const nowhere = -1

// must installs what may be installed.
func must(t *testing.T, s *store.Store, at int, l ...api.Write) {
	t.Helper()
	if err := s.Install(at, l); err != nil {
		t.Fatalf("Install(%d, %v): %v", at, l, err)
	}
}

// tells holds an error against what it must be.
func tells(t *testing.T, what string, err error, want api.Errno, place int) {
	t.Helper()
	if e, p := plain.Place(err); e != want || p != place {
		t.Errorf("%s: error %d at %d, not %d at %d", what, e, p, want, place)
	}
}

// reads asks for a version that there is.
func reads(t *testing.T, s *store.Store, k, at int, want api.Version) {
	t.Helper()
	if v, err := s.Read(k, at); err != nil || v != want {
		t.Errorf("Read(%d, %d): %v, %v, not %v", k, at, v, err, want)
	}
}

// readsNot asks for a version that there is not.
func readsNot(t *testing.T, s *store.Store, k, at int, want api.Errno) {
	t.Helper()
	v, err := s.Read(k, at)
	tells(t, fmt.Sprintf("Read(%d, %d)", k, at), err, want, nowhere)
	if v != (api.Version{}) {
		t.Errorf("Read(%d, %d): %v beside an error", k, at, v)
	}
}

// newer asks for times.
func newer(t *testing.T, s *store.Store, k, at int, want ...int) {
	t.Helper()
	if l, err := s.Newer(k, at); err != nil || !slices.Equal(l, want) {
		t.Errorf("Newer(%d, %d): %v, %v, not %v", k, at, l, err, want)
	}
}

// all asks for what each key has.
func all(t *testing.T, s *store.Store, at int, want ...api.Write) {
	t.Helper()
	if l := s.All(at); !slices.Equal(l, want) {
		t.Errorf("All(%d): %v, not %v", at, l, want)
	}
}

// counts holds Last and Many against what they must be.
func counts(t *testing.T, s *store.Store, last, many int) {
	t.Helper()
	if s.Last() != last || s.Many() != many {
		t.Errorf("Last %d, Many %d, not %d, %d", s.Last(), s.Many(), last, many)
	}
}

// keyThree is the store of most tests: key 3 is 7 at 1, and 8 at 4; key 0 is -2 at 6.
func keyThree(t *testing.T) *store.Store {
	t.Helper()
	var s store.Store
	must(t, &s, 1, api.Write{Key: 3, Value: 7})
	must(t, &s, 4, api.Write{Key: 3, Value: 8})
	must(t, &s, 6, api.Write{Key: 0, Value: -2})
	return &s
}

// 1.1: a zero value.

func TestZeroValueHasNothing(t *testing.T) {
	var s store.Store
	counts(t, &s, 0, 0)
	for k := range api.MaxKeys {
		readsNot(t, &s, k, math.MaxInt, api.ErrNone)
		newer(t, &s, k, math.MinInt)
	}
	all(t, &s, math.MaxInt)
	if n := s.Sweep(math.MaxInt); n != 0 {
		t.Errorf("Sweep: %d", n)
	}
}

// 1.1: Install.

func TestInstallIsInOrder(t *testing.T) {
	for _, at := range []int{math.MinInt, -1, 0, 1, 5, 6, api.MaxNumber + 1, math.MaxInt} {
		s := keyThree(t)
		err := s.Install(at, []api.Write{{Key: 3, Value: 9}})
		tells(t, fmt.Sprintf("Install(%d) behind 6", at), err, api.ErrOrder, nowhere)
		counts(t, s, 6, 3)
		all(t, s, math.MaxInt, api.Write{Key: 0, Value: -2}, api.Write{Key: 3, Value: 8})
	}
	var s store.Store
	tells(t, "Install(0) at first", s.Install(0, nil), api.ErrOrder, nowhere)
	tells(t, "Install(-1) at first", s.Install(-1, nil), api.ErrOrder, nowhere)
	tells(t, "Install behind MaxNumber at first", s.Install(api.MaxNumber+1, nil), api.ErrOrder, nowhere)
	counts(t, &s, 0, 0)
}

func TestInstallUpToTheLastTime(t *testing.T) {
	var s store.Store
	must(t, &s, api.MaxNumber-1, api.Write{Key: 1, Value: 1})
	must(t, &s, api.MaxNumber, api.Write{Key: 1, Value: 2})
	counts(t, &s, api.MaxNumber, 2)
	reads(t, &s, 1, api.MaxNumber, api.Version{At: api.MaxNumber, Value: 2})
	tells(t, "Install again", s.Install(api.MaxNumber, nil), api.ErrOrder, nowhere)
}

func TestInstallTellsTheFirstWrongWrite(t *testing.T) {
	good := api.Write{Key: 3, Value: 9}
	const most = api.MaxNumber
	for _, c := range []struct {
		l     []api.Write
		want  api.Errno
		place int
	}{
		{[]api.Write{{Key: -1}}, api.ErrRange, 0},
		{[]api.Write{{Key: api.MaxKeys}}, api.ErrRange, 0},
		{[]api.Write{{Key: math.MinInt}}, api.ErrRange, 0},
		{[]api.Write{{Key: math.MaxInt}}, api.ErrRange, 0},
		{[]api.Write{{Value: most + 1}}, api.ErrArg, 0},
		{[]api.Write{{Value: -most - 1}}, api.ErrArg, 0},
		{[]api.Write{{Value: math.MinInt}}, api.ErrArg, 0},
		{[]api.Write{{Value: math.MaxInt}}, api.ErrArg, 0},
		{[]api.Write{{Key: -1, Value: most + 1}}, api.ErrRange, 0}, // the key is told first
		{[]api.Write{good, good, {Key: 10}}, api.ErrRange, 2},
		{[]api.Write{good, {Value: most + 1}, {Key: 10}}, api.ErrArg, 1}, // write by write
		{[]api.Write{good, {Key: 10}, {Value: most + 1}, good}, api.ErrRange, 1},
	} {
		s := keyThree(t)
		tells(t, fmt.Sprint("Install ", c.l), s.Install(7, c.l), c.want, c.place)
		counts(t, s, 6, 3)
		all(t, s, math.MaxInt, api.Write{Key: 0, Value: -2}, api.Write{Key: 3, Value: 8})
		must(t, s, 7, good) // the time is still free
		reads(t, s, 3, 7, api.Version{At: 7, Value: 9})
	}
}

func TestInstallTellsTheOrderAheadOfTheWrites(t *testing.T) {
	s := keyThree(t)
	tells(t, "Install", s.Install(6, []api.Write{{Key: -1}}), api.ErrOrder, nowhere)
	tells(t, "Install", s.Install(api.MaxNumber+1, []api.Write{{Key: -1}}), api.ErrOrder, nowhere)
}

func TestInstallTakesTheEdges(t *testing.T) {
	var s store.Store
	low := api.Write{Key: 0, Value: -api.MaxNumber}
	high := api.Write{Key: api.MaxKeys - 1, Value: api.MaxNumber}
	must(t, &s, 1, high, low)
	all(t, &s, 1, low, high)
}

func TestInstallKeepsTheLastWriteOfAKey(t *testing.T) {
	var s store.Store
	must(t, &s, 2, api.Write{Key: 5, Value: 1}, api.Write{Key: 4, Value: 6}, api.Write{Key: 5, Value: 2}, api.Write{Key: 5, Value: 0})
	counts(t, &s, 2, 2)
	reads(t, &s, 5, 2, api.Version{At: 2, Value: 0})
	reads(t, &s, 4, 2, api.Version{At: 2, Value: 6})
	newer(t, &s, 5, 0, 2)
	must(t, &s, 3, api.Write{Key: 5, Value: 3}, api.Write{Key: 5, Value: 4})
	reads(t, &s, 5, 2, api.Version{At: 2, Value: 0}) // an elder commit's is another version
	reads(t, &s, 5, 3, api.Version{At: 3, Value: 4})
	counts(t, &s, 3, 3)
}

func TestInstallOfTheSameValueIsAVersion(t *testing.T) {
	var s store.Store
	must(t, &s, 1, api.Write{Key: 5, Value: 1})
	must(t, &s, 2, api.Write{Key: 5, Value: 1})
	newer(t, &s, 5, 0, 1, 2)
	counts(t, &s, 2, 2)
}

func TestInstallOfNothingTakesATime(t *testing.T) {
	var s store.Store
	must(t, &s, 3)
	counts(t, &s, 3, 0)
	tells(t, "Install(3) again", s.Install(3, nil), api.ErrOrder, nowhere)
	must(t, &s, 4, api.Write{Key: 1, Value: 1})
	counts(t, &s, 4, 1)
}

// 1.1: Read, Newer, Many, All.

func TestReadIsTheLatestNotLater(t *testing.T) {
	s := keyThree(t)
	elder, younger := api.Version{At: 1, Value: 7}, api.Version{At: 4, Value: 8}
	for _, at := range []int{1, 2, 3} {
		reads(t, s, 3, at, elder)
	}
	for _, at := range []int{4, 5, 9, math.MaxInt} {
		reads(t, s, 3, at, younger)
	}
	for _, at := range []int{0, -1, math.MinInt} {
		readsNot(t, s, 3, at, api.ErrNone)
	}
	readsNot(t, s, 0, 5, api.ErrNone)
	readsNot(t, s, 9, 9, api.ErrNone)
}

func TestNewerIsRisingAndLater(t *testing.T) {
	s := keyThree(t)
	newer(t, s, 3, math.MinInt, 1, 4)
	newer(t, s, 3, 0, 1, 4)
	newer(t, s, 3, 1, 4)
	newer(t, s, 3, 3, 4)
	newer(t, s, 3, 4)
	newer(t, s, 3, math.MaxInt)
	newer(t, s, 0, 4, 6)
	newer(t, s, 9, 0)
}

func TestNoSuchKey(t *testing.T) {
	s := keyThree(t)
	for _, k := range []int{math.MinInt, -1, api.MaxKeys, math.MaxInt} {
		readsNot(t, s, k, 9, api.ErrRange)
		l, err := s.Newer(k, 0)
		tells(t, fmt.Sprintf("Newer(%d)", k), err, api.ErrRange, nowhere)
		if len(l) != 0 {
			t.Errorf("Newer(%d): %v beside an error", k, l)
		}
	}
}

func TestManyAndAll(t *testing.T) {
	s := keyThree(t)
	counts(t, s, 6, 3)
	all(t, s, math.MinInt)
	all(t, s, 0)
	all(t, s, 3, api.Write{Key: 3, Value: 7})
	all(t, s, 5, api.Write{Key: 3, Value: 8})
	all(t, s, 6, api.Write{Key: 0, Value: -2}, api.Write{Key: 3, Value: 8})
	all(t, s, math.MaxInt, api.Write{Key: 0, Value: -2}, api.Write{Key: 3, Value: 8})
}

// 1.2: Sweep.

// twoKeys: key 1 at 1, 3, 5 and 7, key 8 at 3 and 9.
func twoKeys(t *testing.T) *store.Store {
	t.Helper()
	var s store.Store
	must(t, &s, 1, api.Write{Key: 1, Value: 10})
	must(t, &s, 3, api.Write{Key: 1, Value: 30}, api.Write{Key: 8, Value: 31})
	must(t, &s, 5, api.Write{Key: 1, Value: 50})
	must(t, &s, 7, api.Write{Key: 1, Value: 70})
	must(t, &s, 9, api.Write{Key: 8, Value: 91})
	return &s
}

func TestSweepDropsAllButTheLatest(t *testing.T) {
	for _, c := range []struct {
		at, dropped int
		one, eight  []int
	}{
		{math.MinInt, 0, []int{1, 3, 5, 7}, []int{3, 9}},
		{0, 0, []int{1, 3, 5, 7}, []int{3, 9}},
		{1, 0, []int{1, 3, 5, 7}, []int{3, 9}},
		{2, 0, []int{1, 3, 5, 7}, []int{3, 9}},
		{3, 1, []int{3, 5, 7}, []int{3, 9}},
		{6, 2, []int{5, 7}, []int{3, 9}},
		{8, 3, []int{7}, []int{3, 9}},
		{9, 4, []int{7}, []int{9}},
		{math.MaxInt, 4, []int{7}, []int{9}},
	} {
		s := twoKeys(t)
		if n := s.Sweep(c.at); n != c.dropped {
			t.Errorf("Sweep(%d): %d, not %d", c.at, n, c.dropped)
		}
		newer(t, s, 1, 0, c.one...)
		newer(t, s, 8, 0, c.eight...)
		counts(t, s, 9, 6-c.dropped)
		if n := s.Sweep(c.at); n != 0 {
			t.Errorf("Sweep(%d) again: %d", c.at, n)
		}
	}
}

func TestSweepThenElderReads(t *testing.T) {
	s := twoKeys(t)
	s.Sweep(6)
	readsNot(t, s, 1, 4, api.ErrNone)
	reads(t, s, 1, 6, api.Version{At: 5, Value: 50})
	reads(t, s, 8, 4, api.Version{At: 3, Value: 31})
	all(t, s, 4, api.Write{Key: 8, Value: 31})
}

func TestInstallBehindASweep(t *testing.T) {
	s := twoKeys(t)
	s.Sweep(math.MaxInt)
	tells(t, "Install(9)", s.Install(9, nil), api.ErrOrder, nowhere)
	must(t, s, 10, api.Write{Key: 1, Value: 100})
	newer(t, s, 1, 0, 7, 10)
	reads(t, s, 1, 9, api.Version{At: 7, Value: 70})
	counts(t, s, 10, 3)
}

// seen is all that is told to who asks as of a time.
func seen(s *store.Store, at int) string {
	text := fmt.Sprint(s.All(at))
	for k := range api.MaxKeys {
		v, err := s.Read(k, at)
		l, _ := s.Newer(k, at)
		text += fmt.Sprint(v, err, l)
	}
	return text
}

func TestSweepIsNotSeenFromItsTimeOn(t *testing.T) {
	for at := range 12 {
		for later := at; later < 12; later++ {
			s := twoKeys(t)
			before := seen(s, later)
			s.Sweep(at)
			if after := seen(s, later); after != before {
				t.Errorf("Sweep(%d), as of %d: %s, not %s", at, later, after, before)
			}
		}
	}
}

// P4: lists.

func TestListsThatAreHandedInStayTheirs(t *testing.T) {
	var s store.Store
	whole := []api.Write{{Key: 2, Value: 1}, {Key: 2, Value: 2}, {Key: 3, Value: 3}}
	kept := slices.Clone(whole)
	must(t, &s, 1, whole[:2]...)
	if !slices.Equal(whole, kept) {
		t.Errorf("Install wrote into its list: %v", whole)
	}
	clear(whole)
	all(t, &s, 1, api.Write{Key: 2, Value: 2})
}

func TestListsThatComeOutAreTheCallers(t *testing.T) {
	s := twoKeys(t)
	times, _ := s.Newer(1, 0)
	what := s.All(9)
	for range 2 {
		clear(times)
		clear(what)
		times = append(times[:1], -1)
		what = append(what[:1], api.Write{Key: -1})
		newer(t, s, 1, 0, 1, 3, 5, 7)
		all(t, s, 9, api.Write{Key: 1, Value: 70}, api.Write{Key: 8, Value: 91})
	}
}

func TestStoresAreApart(t *testing.T) {
	a, b := twoKeys(t), twoKeys(t)
	a.Sweep(math.MaxInt)
	must(t, a, 11, api.Write{Key: 0, Value: 1})
	counts(t, a, 11, 3)
	counts(t, b, 9, 6)
}

// 1.1, 1.2: all calls in turn, against a store that is one plain list.

// entry is a version in the plain list.
type entry struct{ key, at, value int }

// list is a store as the document tells it: every version, as it was committed.
type list struct {
	last    int
	entries []entry
}

func (m *list) install(at int, l []api.Write) {
	for i, w := range l {
		if !slices.ContainsFunc(l[i+1:], func(o api.Write) bool { return o.Key == w.Key }) {
			m.entries = append(m.entries, entry{w.Key, at, w.Value})
		}
	}
	m.last = at
}

// covered says whether another version of the key lies between that one and a time.
func (m *list) covered(e entry, at int) bool {
	return slices.ContainsFunc(m.entries, func(o entry) bool { return o.key == e.key && e.at < o.at && o.at <= at })
}

func (m *list) sweep(at int) int {
	var left []entry
	for _, e := range m.entries {
		if !m.covered(e, at) {
			left = append(left, e)
		}
	}
	n := len(m.entries) - len(left)
	m.entries = left
	return n
}

// seen is what seen of the store must be.
func (m *list) seen(at int) string {
	versions := [api.MaxKeys]api.Version{}
	errs := [api.MaxKeys]error{}
	times := [api.MaxKeys][]int{}
	var all []api.Write
	for k := range api.MaxKeys {
		errs[k] = api.ErrNone
		for _, e := range m.entries {
			if e.key == k && e.at > at {
				times[k] = append(times[k], e.at)
			} else if e.key == k && !m.covered(e, at) {
				versions[k], errs[k] = api.Version{At: e.at, Value: e.value}, nil
				all = append(all, api.Write{Key: k, Value: e.value})
			}
		}
	}
	text := fmt.Sprint(all)
	for k := range api.MaxKeys {
		text += fmt.Sprint(versions[k], errs[k], times[k])
	}
	return text
}

// drawn are numbers that look drawn, the same each time.
type drawn uint64

func (d *drawn) below(n int) int {
	*d = *d*6364136223846793005 + 1442695040888963407
	return int(uint64(*d>>33) % uint64(n))
}

func TestAgainstAPlainList(t *testing.T) {
	d := drawn(1)
	for run := range 60 {
		var s store.Store
		var m list
		for step := range 40 {
			if d.below(5) == 0 {
				at := d.below(m.last+3) - 1
				if got, want := s.Sweep(at), m.sweep(at); got != want {
					t.Fatalf("run %d, step %d: Sweep(%d): %d, not %d", run, step, at, got, want)
				}
			} else {
				var l []api.Write
				for range d.below(6) {
					l = append(l, api.Write{Key: d.below(api.MaxKeys), Value: d.below(9) - 4})
				}
				at := m.last + 1 + d.below(3)
				must(t, &s, at, l...)
				m.install(at, l)
			}
			counts(t, &s, m.last, len(m.entries))
			at := d.below(m.last+3) - 1
			if got, want := seen(&s, at), m.seen(at); got != want {
				t.Fatalf("run %d, step %d: as of %d: %s, not %s", run, step, at, got, want)
			}
		}
	}
}
