package desk

import (
	"maps"
	"slices"
	"strconv"
	"strings"

	"interleaf/base"
	"interleaf/order"
)

// staysOn is a Cut by which the power is on.
const staysOn = -1

func (s *session) begin(n []int) string { return tellNumbers(must(s.engine().Begin(n[0]))) }

func (s *session) read(n []int) string {
	return "is " + tellNumbers(must(s.engine().Read(n[0], n[1])))
}

func (s *session) write(n []int) string {
	if must(s.engine().Write(n[0], n[1], n[2])) {
		return "write"
	}
	return "waits"
}

func (s *session) commit(n []int) string {
	throw(s.base.Commit(n[0]))
	return "commit"
}

func (s *session) abort(n []int) string {
	throw(s.engine().Abort(n[0]))
	return "abort"
}

func (s *session) state(n []int) string {
	state, why, err := s.engine().State(n[0])
	throw(err)
	return tellNumbers(state, int(why))
}

func (s *session) waits(n []int) string { return tellNumbers(s.engine().Waits(n[0])) }

func (s *session) sweep([]int) string { return tellNumbers(s.engine().Sweep()) }

func (s *session) now([]int) string {
	e := s.engine()
	return tellNumbers(e.Txs(), e.Last(), e.Many(), s.base.Used()) + " " + strconv.FormatBool(s.base.Down())
}

func (s *session) all([]int) string { return "all " + tellList(s.engine().All(), tellWrite) }

func (s *session) history([]int) string { return "history " + tellList(s.engine().History(), tellOp) }

func (s *session) line([]int) string {
	return "line " + tellNumbers(must(order.Line(s.engine().History()))...)
}

func (s *session) cut(n []int) string {
	s.disk.Cut(n[0])
	s.base.Torn(n[1])
	return "cut"
}

func (s *session) open([]int) string {
	s.disk.Cut(staysOn)
	s.base = must(base.Open(s.disk))
	return "open"
}

func (s *session) help([]int) string {
	return strings.Join(slices.Sorted(maps.Keys(s.commands)), " ")
}
