package desk_test

import (
	"fmt"
	"math/big"
	"strings"
	"testing"

	"interleaf/api"
	"interleaf/base"
	"interleaf/desk"
	"interleaf/order"
)

// drawn: numbers that look drawn, the same each time.
type drawn uint64

// below is one from 0 to below a bound.
func (d *drawn) below(bound int) int {
	*d = *d*6364136223846793005 + 1442695040888963407
	return int(uint64(*d>>33) % uint64(bound))
}

// model is what the document says of a session, line by line, with a base of its own.
type model struct {
	d *base.Disk
	b *base.Base
}

func (m *model) opens() {
	m.d.Cut(-1)
	m.b, _ = base.Open(m.d)
}

// session is what the document asks of a text.
func session(text string) string {
	if len(text) > 20000 {
		return "error 4\n"
	}
	m := &model{d: &base.Disk{}}
	m.opens()
	lines := strings.Split(text, "\n")
	if n := len(lines); n > 1 && lines[n-1] == "" {
		lines = lines[:n-1]
	}
	told := ""
	for _, line := range lines {
		told += m.answer(line) + "\n"
	}
	return told
}

// words are cut byte by byte.
func words(line string) []string {
	var l []string
	word := ""
	for _, b := range []byte(line + " ") {
		if b != ' ' {
			word += string([]byte{b})
		} else if word != "" {
			l = append(l, word)
			word = ""
		}
	}
	return l
}

// number is one of 64 bits, digit by digit.
func number(word string) (int, bool) {
	digits := strings.TrimPrefix(word, "-")
	if digits == "" || digits[0] == '0' && word != "0" {
		return 0, false
	}
	all := new(big.Int)
	for _, b := range []byte(digits) {
		if b < '0' || b > '9' {
			return 0, false
		}
		all.Mul(all, big.NewInt(10)).Add(all, big.NewInt(int64(b-'0')))
	}
	if word != digits {
		all.Neg(all)
	}
	return int(all.Int64()), all.IsInt64()
}

func (m *model) answer(line string) string {
	l := words(line)
	if len(l) == 0 {
		return "ok"
	}
	many, known := counts()[l[0]]
	if !known || len(l) != many+1 {
		return "error 3"
	}
	var n [3]int
	for i, w := range l[1:] {
		x, ok := number(w)
		if !ok {
			return "error 3"
		}
		n[i] = x
	}
	told, err := m.does(l[0], n)
	if err != nil {
		return fmt.Sprint("error ", int(api.Tell(err)))
	}
	return told
}

func (m *model) does(word string, n [3]int) (string, error) {
	e := m.b.Engine()
	switch word {
	case "begin":
		tx, err := e.Begin(n[0])
		return fmt.Sprint(tx), err
	case "read":
		value, err := e.Read(n[0], n[1])
		return fmt.Sprint("is ", value), err
	case "write":
		done, err := e.Write(n[0], n[1], n[2])
		if !done {
			word = "waits"
		}
		return word, err
	case "commit":
		return word, m.b.Commit(n[0])
	case "abort":
		return word, e.Abort(n[0])
	case "state":
		state, why, err := e.State(n[0])
		return fmt.Sprintf("%d %d", state, why), err
	case "waits":
		return fmt.Sprint(e.Waits(n[0])), nil
	case "sweep":
		return fmt.Sprint(e.Sweep()), nil
	case "cut":
		m.d.Cut(n[0])
		m.b.Torn(n[1])
	case "open":
		m.opens()
	default:
		return m.tells(word)
	}
	return word, nil
}

// tells is of those lines that only look.
func (m *model) tells(word string) (string, error) {
	e := m.b.Engine()
	told, comma := word+" ", ""
	switch word {
	case "now":
		return fmt.Sprintf("%d %d %d %d %t", e.Txs(), e.Last(), e.Many(), m.b.Used(), m.b.Down()), nil
	case "all":
		for _, w := range e.All() {
			told += fmt.Sprintf("%s%d %d", comma, w.Key, w.Value)
			comma = ", "
		}
	case "history":
		for _, o := range e.History() {
			if o.Write {
				told += fmt.Sprintf("%s%d w %d", comma, o.Tx, o.Key)
			} else {
				told += fmt.Sprintf("%s%d r %d %d", comma, o.Tx, o.Key, o.From)
			}
			comma = ", "
		}
	case "line":
		l, err := order.Line(e.History())
		return told + strings.Trim(fmt.Sprint(l), "[]"), err
	case "help":
		return "abort all begin commit cut help history line now open read state sweep waits write", nil
	}
	return told, nil
}

// drawNumber is mostly one that there is.
func drawNumber(d *drawn, bound int) string {
	if d.below(40) == 0 {
		l := append(notNumbers(), "9223372036854775807", "-9223372036854775808", "1099511627776", "-1099511627777")
		return l[d.below(len(l))]
	}
	return fmt.Sprint(d.below(bound) - d.below(20)/19)
}

// drawLine is one that is mostly right; txs is how many there may be.
func drawLine(d *drawn, txs int) string {
	kinds := strings.Fields("begin begin begin read read read write write write commit commit state")
	if d.below(3) == 0 {
		kinds = strings.Fields("abort waits sweep now all history line cut open help x")
	}
	word := kinds[d.below(len(kinds))]
	many := counts()[word]
	if d.below(50) == 0 {
		many = d.below(5)
	}
	line := strings.Repeat(" ", d.below(9)/8) + word
	for i := range many {
		bound := []int{txs + 2, 4, 90}[min(i, 2)]
		if word == "cut" {
			bound = 6
		}
		number := drawNumber(d, bound)
		if word == "begin" && d.below(9) > 0 {
			number = fmt.Sprint(max(d.below(3), d.below(3)))
		}
		line += strings.Repeat(" ", 1+d.below(9)/8) + number
	}
	return line + strings.Repeat(" ", d.below(9)/8)
}

func TestAgainstTheWordsOfTheDocument(t *testing.T) {
	d := drawn(3)
	kinds := map[string]int{}
	for range 1500 {
		txs := 1 + d.below(6)
		var lines []string
		for range d.below(150) {
			lines = append(lines, drawLine(&d, txs))
		}
		text := strings.Join(lines, "\n") + strings.Repeat("\n", d.below(3))
		got, want := desk.Session(text), session(text)
		if got != want {
			t.Fatalf("%q: %q, not %q", text, got, want)
		}
		for answer := range strings.SplitSeq(got, "\n") {
			word, _, _ := strings.Cut(answer, " ")
			kinds[word]++
			if word == "error" {
				kinds[answer]++
			}
		}
	}
	// Else the sessions that were drawn tell little.
	for _, kind := range strings.Fields("ok is write waits commit abort all history line cut open") {
		if kinds[kind] == 0 {
			t.Errorf("nothing was answered %q", kind)
		}
	}
	for _, e := range []api.Errno{api.ErrArg, api.ErrRange, api.ErrForm, api.ErrLimit, api.ErrState, api.ErrMissing, api.ErrNone, api.ErrOrder, api.ErrCycle, api.ErrFalse, api.ErrDevice} {
		if kinds[fmt.Sprint("error ", int(e))] == 0 {
			t.Errorf("nothing was answered error %d", e)
		}
	}
}

// Any bytes at all: a line each, and none panics.
func TestAnyBytes(t *testing.T) {
	d := drawn(8)
	bytes := []byte(" \n\n\t\r\x00\xff\xc3\xa901-9+abeginwritehlp")
	for range 4000 {
		var l []byte
		for range d.below(300) {
			if d.below(4) == 0 {
				l = append(l, byte(d.below(256)))
			} else {
				l = append(l, bytes[d.below(len(bytes))])
			}
		}
		text := string(l)
		if got, want := desk.Session(text), session(text); got != want {
			t.Fatalf("%q: %q, not %q", text, got, want)
		}
	}
}

// The longest answers: who reads all the time, and asks for all that was read.
func TestLongSessions(t *testing.T) {
	text := "begin 0\n" + strings.Repeat("read 1 1\n", 900) + "commit 1\n"
	for _, line := range []string{"history\n", "line\n", "all\n", "\n"} {
		long := text + strings.Repeat(line, (api.MaxText-len(text))/len(line))
		got := desk.Session(long)
		if strings.Count(got, "\n") != strings.Count(long, "\n") {
			t.Errorf("%q: %d lines of %d", line, strings.Count(got, "\n"), strings.Count(long, "\n"))
		}
	}
}

// What is answered to lines does not hang on those behind them.
func TestAnswersDoNotHangOnLaterLines(t *testing.T) {
	d := drawn(5)
	for range 100 {
		text, told := "", ""
		for range 40 {
			text += drawLine(&d, 4) + "\n"
			got := desk.Session(text)
			if !strings.HasPrefix(got, told) {
				t.Fatalf("%q: %q does not begin with %q", text, got, told)
			}
			told = got
		}
	}
}
