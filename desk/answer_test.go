package desk

import "testing"

// P1: nothing that is thrown gets out of a line, whatever it is; and the next line is answered as ever.
func TestNothingThrownGetsOut(t *testing.T) {
	s := newSession()
	s.commands["x"] = command{0, func(numbers []int) string { return tellNumbers(numbers[0]) }}
	if got := s.answer("x"); got != "error -1" {
		t.Errorf("%q, not error -1", got)
	}
	if got := s.answer("begin 0"); got != "1" {
		t.Errorf("%q, not 1", got)
	}
}
