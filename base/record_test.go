package base

import (
	"slices"
	"testing"

	"interleaf/api"
)

// samples are commits of all lengths.
func samples() [][]api.Write {
	var l [][]api.Write
	var w []api.Write
	for key, value := range []int{0, 1, -1, 255, 256, -256, api.MaxNumber, -api.MaxNumber, 7, 1 << 33} {
		w = append(w, api.Write{Key: key, Value: value})
		l = append(l, slices.Clone(w))
	}
	return append(l, []api.Write{{Key: 9, Value: -1}})
}

func TestBytesAreTakenApartAgain(t *testing.T) {
	for _, w := range samples() {
		l := record(w)
		if !isWhole(l) || !slices.Equal(writesOf(l), w) {
			t.Errorf("%v: whole %v, %v", w, isWhole(l), writesOf(l))
		}
	}
}

func TestBytesThatAreTooFewOrTooManyAreNotWhole(t *testing.T) {
	for _, w := range samples() {
		l := record(w)
		for n := range len(l) {
			if isWhole(l[:n]) {
				t.Errorf("%v: whole with %d bytes of %d", w, n, len(l))
			}
		}
		for more := range 256 {
			if isWhole(append(slices.Clone(l), byte(more))) {
				t.Errorf("%v: whole with %d behind it", w, more)
			}
		}
	}
	if isWhole(nil) {
		t.Errorf("nothing is whole")
	}
}

// A value may be the very sum of the bytes ahead of it: torn behind it they look right but for their length.
func TestBytesThatAreTooFewAreNotWholeByTheirSum(t *testing.T) {
	ahead := []byte{2, 0}
	l := record([]api.Write{{Key: 0, Value: int(sum(ahead))}, {Key: 1, Value: 5}})
	torn := l[:len(ahead)+numberSize]
	if number(torn[len(ahead):]) != sum(ahead) {
		t.Fatalf("%v: the sum is not there", torn)
	}
	if isWhole(torn) {
		t.Errorf("%v is whole", torn)
	}
}

func TestBytesThatAreChangedAreNotWhole(t *testing.T) {
	for _, w := range samples() {
		l := record(w)
		for i := range l {
			for by := 1; by < 256; by++ {
				changed := slices.Clone(l)
				changed[i] ^= byte(by)
				if isWhole(changed) {
					t.Errorf("%v: whole with byte %d changed by %d", w, i, by)
				}
			}
		}
	}
}

func TestBytesThatAreSwappedAreNotWhole(t *testing.T) {
	for _, w := range samples() {
		l := record(w)
		for i := range len(l) - numberSize {
			for j := range i {
				if l[i] == l[j] {
					continue
				}
				swapped := slices.Clone(l)
				swapped[i], swapped[j] = l[j], l[i]
				if isWhole(swapped) {
					t.Errorf("%v: whole with bytes %d and %d swapped", w, i, j)
				}
			}
		}
	}
}
