package many_test

import (
	"fmt"
	"math"
	"slices"
	"strings"
	"sync"
	"testing"

	"interleaf/api"
	"interleaf/desk"
	"interleaf/many"
	"interleaf/plain"
)

// texts are so many sessions, each unlike the others; some are long, so that the workers end in another order than they begin.
func texts(n int) []string {
	var l []string
	for i := range n {
		text := fmt.Sprintf("begin 0\nwrite 1 3 %d\ncommit 1\n", i)
		text += strings.Repeat("begin 2\nread 2 3\nabort 2\nhistory\n", (n-i)%7*20)
		l = append(l, text+"all\nnow")
	}
	return l
}

// answers are those of package desk, one behind the other.
func answers(texts []string) []string {
	l := []string{}
	for _, text := range texts {
		l = append(l, desk.Session(text))
	}
	return l
}

// tells holds All's answer against Session's.
func tells(t *testing.T, texts []string, workers int) {
	t.Helper()
	got, err := many.All(texts, workers)
	if err != nil || !slices.Equal(got, answers(texts)) {
		t.Errorf("All of %d with %d workers: %q, %v", len(texts), workers, got, err)
	}
}

// refuses holds that All tells ErrLimit, and nothing else.
func refuses(t *testing.T, texts []string, workers int) {
	t.Helper()
	got, err := many.All(texts, workers)
	if e, place := plain.Place(err); e != api.ErrLimit || place != -1 || len(got) != 0 {
		t.Errorf("All of %d with %d workers: %q, error %d at %d, not %d", len(texts), workers, got, e, place, api.ErrLimit)
	}
}

func TestAllIsSessionOfEachInOrder(t *testing.T) {
	got, err := many.All([]string{"begin 0", "", "now", "help x", strings.Repeat(" ", api.MaxText+1)}, 2)
	want := []string{"1\n", "ok\n", "0 0 0 0 false\n", "error 3\n", "error 4\n"}
	if err != nil || !slices.Equal(got, want) {
		t.Errorf("%q, %v, not %q", got, err, want)
	}
}

// 7.1, and number 4 of what is to be true of the whole.
func TestHowManyWorkersThereAreMakesNoDifference(t *testing.T) {
	for _, n := range []int{0, 1, 2, 3, 7, 15, 16, 17, 49, 50} {
		for workers := 1; workers <= 16; workers++ {
			tells(t, texts(n), workers)
		}
	}
}

func TestNoTexts(t *testing.T) {
	tells(t, nil, 1)
	tells(t, nil, 16)
	tells(t, []string{}, 5)
}

func TestSameTextsHaveDisksOfTheirOwn(t *testing.T) {
	tells(t, slices.Repeat([]string{"begin 0\nwrite 1 3 7\ncommit 1\ncut 0 5\nnow\nall"}, 50), 16)
}

func TestMoreThan50Texts(t *testing.T) {
	for _, n := range []int{51, 52, 100, 5000} {
		for _, workers := range []int{1, 16, 0, 17} {
			refuses(t, make([]string, n), workers)
		}
	}
}

func TestWorkersThatAreNotFrom1To16(t *testing.T) {
	for _, workers := range []int{0, -1, 17, 18, 1 << 32, 1<<32 + 1, math.MinInt, math.MaxInt} {
		for _, n := range []int{0, 1, 50} {
			refuses(t, texts(n), workers)
		}
	}
}

// P4.
func TestTextsAreNotWrittenIntoAndAnswersAreFresh(t *testing.T) {
	room := texts(12)
	want := slices.Clone(room)
	first, _ := many.All(room[:8], 3)
	if !slices.Equal(room, want) {
		t.Error("the texts, or what stands behind them, are written into")
	}
	told := slices.Clone(first)
	second, _ := many.All(room[:8], 3)
	clear(second)
	clear(room)
	if !slices.Equal(first, told) {
		t.Error("an answer hangs on another one, or on the texts")
	}
}

// Several may ask at the same time: each call is by itself.
func TestCallsAtTheSameTime(t *testing.T) {
	var all sync.WaitGroup
	for i := range 8 {
		all.Go(func() { tells(t, texts(20+i), 1+i*2) })
	}
	all.Wait()
}
