package desk_test

import (
	"strconv"
	"strings"
	"testing"

	"interleaf/api"
	"interleaf/desk"
)

// talk is what lines tell, one behind the other, of one session: each as "line -> answer".
func talk(t *testing.T, told ...string) {
	t.Helper()
	var lines, answers []string
	for _, s := range told {
		line, answer, ok := strings.Cut(s, " -> ")
		if !ok {
			t.Fatalf("no arrow in %q", s)
		}
		lines, answers = append(lines, line), append(answers, answer)
	}
	text := strings.Join(lines, "\n")
	for _, end := range []string{"", "\n"} { // one line feed at the end makes no difference
		got := strings.Split(desk.Session(text+end), "\n")
		if len(got) != len(answers)+1 || got[len(answers)] != "" {
			t.Fatalf("%q: %q, not a line each", text+end, got)
		}
		for i, want := range answers {
			if got[i] != want {
				t.Errorf("%q: line %d: %q, not %q", told, i, got[i], want)
			}
		}
	}
}

// whole holds the whole answer of a text against what it must be.
func whole(t *testing.T, text, want string) {
	t.Helper()
	if got := desk.Session(text); got != want {
		t.Errorf("%.80q: %.80q, not %.80q", text, got, want)
	}
}

// begun is a session in which so many of a level were begun.
func begun(level, many int) []string {
	var told []string
	for n := range many {
		told = append(told, "begin "+strconv.Itoa(level)+" -> "+strconv.Itoa(n+1))
	}
	return told
}

// 6.1: texts, lines and words.

func TestTextsAreCutAtLineFeeds(t *testing.T) {
	whole(t, "", "ok\n")
	whole(t, "\n", "ok\n")
	whole(t, "\n\n", "ok\nok\n")
	whole(t, "\n\n\n", "ok\nok\nok\n")
	whole(t, "sweep", "0\n")
	whole(t, "sweep\n", "0\n")
	whole(t, "sweep\n\n", "0\nok\n")
	whole(t, "\nsweep", "ok\n0\n")
	whole(t, "begin 0\n\nbegin 0\n", "1\nok\n2\n")
}

func TestTextsThatAreTooLong(t *testing.T) {
	for _, text := range []string{strings.Repeat("x", api.MaxText+1), strings.Repeat("\n", api.MaxText+1), strings.Repeat(" ", 3*api.MaxText), "begin 0\n" + strings.Repeat(" ", api.MaxText)} {
		whole(t, text, "error 4\n")
	}
	whole(t, strings.Repeat("x", api.MaxText), "error 3\n")
	whole(t, strings.Repeat(" ", api.MaxText), "ok\n")
	whole(t, strings.Repeat("\n", api.MaxText), strings.Repeat("ok\n", api.MaxText))
	// Bytes count, not runes.
	whole(t, strings.Repeat("é", api.MaxText/2), "error 3\n")
	whole(t, strings.Repeat("é", api.MaxText/2)+"x", "error 4\n")
	// The line feed at the end counts, too.
	whole(t, strings.Repeat(" ", api.MaxText-1)+"\n", "ok\n")
	whole(t, strings.Repeat(" ", api.MaxText)+"\n", "error 4\n")
}

func TestLinesWithoutWords(t *testing.T) {
	talk(t, " -> ok", "  -> ok", "     -> ok", "begin 0 -> 1")
}

func TestBlanksAreBetweenWordsAndAtBothEnds(t *testing.T) {
	talk(t,
		"  begin 2 -> 1",
		"begin   2   -> 2",
		"    write     1  3    7     -> write",
		" commit 1  -> commit",
		"now  -> 2 1 1 1 false",
	)
}

func TestOnlyABlankIsBetweenWords(t *testing.T) {
	for _, blank := range []string{"\t", "\r", "\v", "\f", "\x00", "\u0085", "\u00a0", "\u2003", "\u3000", "\xa0", "\xff", ","} {
		whole(t, "begin"+blank+"0", "error 3\n")
		whole(t, "begin "+blank+"0", "error 3\n")
		whole(t, "begin 0"+blank, "error 3\n")
		whole(t, blank+"begin 0", "error 3\n")
		whole(t, "sweep "+blank, "error 3\n")
		whole(t, blank, "error 3\n")
	}
}

// Such a word is one of these, to the byte.
func TestFirstWordsThatAreNone(t *testing.T) {
	for _, w := range []string{"x", "Begin", "BEGIN", "begi", "beginn", "begin0", "ready", "writes", "txs", "last", "many", "used", "down", "engine", "ok", "error", "is", "0", "-", "-1", "12", "h\xffelp", "\xff", "help.", "hilfe", "ｈelp"} {
		for _, behind := range []string{"", " 0", " 1 1", " 1 1 1", " 1 1 1 1"} {
			whole(t, w+behind, "error 3\n")
		}
	}
}

// counts: so many numbers stand behind each word.
func counts() map[string]int {
	return map[string]int{
		"abort": 1, "all": 0, "begin": 1, "commit": 1, "cut": 2, "help": 0, "history": 0, "line": 0,
		"now": 0, "open": 0, "read": 2, "state": 1, "sweep": 0, "waits": 1, "write": 3,
	}
}

func TestJustSoManyWordsStandBehindAWord(t *testing.T) {
	for w, many := range counts() {
		for n := range 7 {
			text := "begin 0\n" + w + strings.Repeat(" 1", n)
			got := desk.Session(text)
			if wrong := got == "1\nerror 3\n"; wrong != (n != many) {
				t.Errorf("%q: %q", text, got)
			}
		}
	}
}

// A line of a wrong form does nothing.
func TestLinesOfAWrongFormDoNothing(t *testing.T) {
	told := []string{"begin 0 -> 1", "write 1 3 7 -> write"}
	for _, line := range []string{"begin", "begin x", "begin 0 0", "write 1 3 07", "write 1 3", "commit", "commit 1 1", "commit +1", "abort 1x", "cut 0", "cut 0 x", "open 1", "open x", "sweep x"} {
		told = append(told, line+" -> error 3", "now -> 1 0 0 0 false", "state 1 -> 0 0")
	}
	talk(t, append(told, "commit 1 -> commit", "all -> all 3 7")...)
}

// notNumbers are words that are no numbers by 6.1 and P5.
func notNumbers() []string {
	return []string{
		"x", "-", "--1", "-x", "+1", "+0", "1+", "1-", "00", "01", "007", "-0", "-00", "-01", "1.0", "1e3", "0x1", "0b1", "0o7", "1_0", "1,0",
		"9223372036854775808", "-9223372036854775809", "18446744073709551615", "18446744073709551616", "99999999999999999999999", strings.Repeat("9", 1000), "-" + strings.Repeat("9", 1000),
		"1\t", "\t1", "1\r", "1\x00", "\xff", "1\xff", "１", "٣", "−1", "½", "true", "one", "'1'", "\"1\"",
	}
}

func TestWordsThatAreNoNumbers(t *testing.T) {
	for _, x := range notNumbers() {
		for w, many := range counts() {
			for place := range many {
				words := strings.Split(strings.Repeat("1", many), "")
				words[place] = x
				whole(t, w+" "+strings.Join(words, " "), "error 3\n")
			}
		}
	}
}

// All numbers of 64 bits are of the form: what is wrong then is what is told of them.
func TestNumbersOf64Bits(t *testing.T) {
	for _, x := range []string{"9223372036854775807", "-9223372036854775808", "9223372036854775800", "140737488355328", "-140737488355328", "1099511627777", "-1099511627777"} {
		talk(t,
			"begin "+x+" -> error 1",
			"begin 0 -> 1",
			"read "+x+" 1 -> error 7",
			"read 1 "+x+" -> error 2",
			"write "+x+" 1 1 -> error 7",
			"write 1 "+x+" 1 -> error 2",
			"write 1 1 "+x+" -> error 1",
			"commit "+x+" -> error 7",
			"abort "+x+" -> error 7",
			"state "+x+" -> error 7",
			"waits "+x+" -> 0",
			"cut "+x+" "+x+" -> cut",
			"now -> 1 0 0 0 false",
		)
	}
}

// 6.1: what each line tells.

func TestBegin(t *testing.T) {
	talk(t, "begin 0 -> 1", "begin 1 -> 2", "begin 2 -> 3", "begin 3 -> error 1", "begin -1 -> error 1", "begin 2 -> 4", "now -> 4 0 0 0 false")
}

func TestBeginWhereMaxOpenAreNotOver(t *testing.T) {
	talk(t, append(begun(1, api.MaxOpen), "begin 1 -> error 4", "begin 3 -> error 1", "abort 2 -> abort", "begin 1 -> 7", "begin 1 -> error 4")...)
}

func TestBeginWhereThereWereMaxTxs(t *testing.T) {
	var told []string
	for n := range api.MaxTxs {
		told = append(told, "begin 2 -> "+strconv.Itoa(n+1), "abort "+strconv.Itoa(n+1)+" -> abort")
	}
	talk(t, append(told, "begin 2 -> error 12", "now -> 200 0 0 0 false", "open -> open", "begin 2 -> 1")...)
}

func TestReadAndWrite(t *testing.T) {
	talk(t,
		"begin 0 -> 1",
		"read 1 3 -> error 8",
		"write 1 3 7 -> write",
		"read 1 3 -> is 7",
		"write 1 3 -8 -> write",
		"read 1 3 -> is -8",
		"write 1 0 0 -> write",
		"read 1 0 -> is 0",
		"write 1 9 1099511627776 -> write",
		"read 1 9 -> is 1099511627776",
		"write 1 8 -1099511627776 -> write",
		"read 1 8 -> is -1099511627776",
	)
}

func TestReadsAndWritesThatMayNotBe(t *testing.T) {
	talk(t,
		"read 1 1 -> error 7",
		"write 1 1 1 -> error 7",
		"read 0 10 -> error 7",
		"write -1 10 1099511627777 -> error 7",
		"begin 2 -> 1",
		"read 1 10 -> error 2",
		"read 1 -1 -> error 2",
		"write 1 10 1 -> error 2",
		"write 1 -1 1099511627777 -> error 2",
		"write 1 1 1099511627777 -> error 1",
		"write 1 1 -1099511627777 -> error 1",
		"state 1 -> 0 0",
		"abort 1 -> abort",
		"read 1 10 -> error 6",
		"write 1 10 1 -> error 6",
	)
}

// The numbers stand in the order that is told: whose, which key, which value.
func TestNumbersStandInTheirOrder(t *testing.T) {
	talk(t,
		"begin 0 -> 1",
		"begin 0 -> 2",
		"write 2 5 1 -> write",
		"read 2 5 -> is 1",
		"read 1 5 -> error 8",
		"read 2 1 -> error 8",
		"commit 2 -> commit",
		"read 1 5 -> is 1",
		"state 1 -> 0 0",
		"state 2 -> 2 0",
		"cut 1 0 -> cut",
		"write 1 4 9 -> write",
		"commit 1 -> commit", // behind one write more the power is off
		"all -> all 4 9, 5 1",
	)
}

func TestWaits(t *testing.T) {
	talk(t,
		"begin 0 -> 1",
		"begin 0 -> 2",
		"begin 0 -> 3",
		"write 1 3 7 -> write",
		"write 2 3 8 -> waits",
		"write 3 3 9 -> waits",
		"state 2 -> 1 0",
		"waits 1 -> 0",
		"waits 2 -> 1",
		"waits 3 -> 1",
		"waits 4 -> 0",
		"waits 0 -> 0",
		"waits -1 -> 0",
		"write 2 4 1 -> error 6",
		"read 2 3 -> error 6",
		"commit 2 -> error 6",
		"commit 1 -> commit",
		"waits 2 -> 0",
		"waits 3 -> 2",
		"read 2 3 -> is 8",
		"abort 2 -> abort",
		"read 3 3 -> is 9",
		"all -> all 3 7",
	)
}

func TestWhoWouldWaitForItselfIsGone(t *testing.T) {
	talk(t,
		"begin 1 -> 1",
		"begin 1 -> 2",
		"write 1 3 1 -> write",
		"write 2 4 2 -> write",
		"write 1 4 3 -> waits",
		"write 2 3 4 -> error 11",
		"state 2 -> 3 11",
		"state 1 -> 0 0",
		"read 1 4 -> is 3",
	)
}

func TestCommitAndAbort(t *testing.T) {
	talk(t,
		"commit 1 -> error 7",
		"abort 1 -> error 7",
		"begin 0 -> 1",
		"begin 1 -> 2",
		"commit 1 -> commit",
		"commit 1 -> error 6",
		"abort 1 -> error 6",
		"abort 2 -> abort",
		"abort 2 -> error 6",
		"commit 2 -> error 6",
		"now -> 2 0 0 0 false",
	)
}

// The base's Commit writes to the disk, and the engine's alone would not.
func TestCommitIsTheBases(t *testing.T) {
	talk(t,
		"begin 0 -> 1",
		"write 1 3 7 -> write",
		"commit 1 -> commit",
		"now -> 1 1 1 1 false",
		"open -> open",
		"now -> 0 1 1 1 false",
		"all -> all 3 7",
	)
}

func TestState(t *testing.T) {
	talk(t,
		"state 1 -> error 7",
		"state 0 -> error 7",
		"begin 1 -> 1",
		"begin 1 -> 2",
		"state 1 -> 0 0",
		"write 1 3 7 -> write",
		"write 2 3 8 -> waits",
		"state 2 -> 1 0",
		"commit 1 -> commit",
		"state 1 -> 2 0",
		"state 2 -> 3 10",
		"begin 0 -> 3",
		"abort 3 -> abort",
		"state 3 -> 3 0",
	)
}

// DOC.md's example 4.
func TestStrictOnesThatReadWhatTheOtherOneWrites(t *testing.T) {
	talk(t,
		"begin 2 -> 1",
		"begin 2 -> 2",
		"read 1 3 -> error 8",
		"read 2 4 -> error 8",
		"write 1 4 7 -> write",
		"write 2 3 8 -> write",
		"commit 1 -> error 13",
		"state 1 -> 3 13",
		"commit 2 -> commit",
		"history -> history 2 r 4 0, 2 w 3",
		"line -> line 2",
	)
}

func TestSweep(t *testing.T) {
	talk(t,
		"sweep -> 0",
		"begin 0 -> 1", "write 1 3 7 -> write", "commit 1 -> commit",
		"begin 0 -> 2", "write 2 3 8 -> write", "commit 2 -> commit",
		"begin 1 -> 3",
		"begin 0 -> 4", "write 4 3 9 -> write", "write 4 5 1 -> write", "commit 4 -> commit",
		"now -> 4 3 4 3 false",
		"sweep -> 1",
		"now -> 4 3 3 3 false",
		"read 3 3 -> is 8",
		"commit 3 -> commit",
		"sweep -> 1",
		"sweep -> 0",
		"now -> 4 3 2 3 false",
		"all -> all 3 9, 5 1",
	)
}

func TestNow(t *testing.T) {
	talk(t,
		"now -> 0 0 0 0 false",
		"begin 0 -> 1",
		"now -> 1 0 0 0 false",
		"write 1 3 7 -> write",
		"write 1 4 7 -> write",
		"now -> 1 0 0 0 false",
		"commit 1 -> commit",
		"now -> 1 1 2 1 false",
		"begin 0 -> 2",
		"write 2 3 8 -> write",
		"cut 0 3 -> cut",
		"now -> 2 1 2 1 false",
		"commit 2 -> error 14",
		"now -> 2 1 2 1 true",
	)
}

func TestAll(t *testing.T) {
	talk(t,
		"all -> all ",
		"begin 0 -> 1",
		"write 1 9 -1 -> write",
		"all -> all ",
		"commit 1 -> commit",
		"all -> all 9 -1",
		"begin 0 -> 2",
		"write 2 9 3 -> write", "write 2 0 0 -> write", "write 2 4 5 -> write",
		"commit 2 -> commit",
		"all -> all 0 0, 4 5, 9 3",
	)
}

func TestHistoryAndLine(t *testing.T) {
	talk(t,
		"history -> history ",
		"line -> line ",
		"begin 2 -> 1",
		"begin 2 -> 2",
		"read 2 1 -> error 8",
		"write 2 2 5 -> write",
		"write 1 1 6 -> write",
		"commit 1 -> commit",
		"history -> history 1 w 1",
		"line -> line 1",
		"commit 2 -> commit",
		"history -> history 1 w 1, 2 r 1 0, 2 w 2",
		"line -> line 2 1", // DOC.md's example 3
		"begin 2 -> 3",
		"read 3 2 -> is 5",
		"read 3 1 -> is 6",
		"write 3 1 7 -> write",
		"read 3 1 -> is 7",
		"commit 3 -> commit",
		"history -> history 1 w 1, 2 r 1 0, 2 w 2, 3 r 2 2, 3 r 1 1, 3 w 1",
		"line -> line 2 1 3",
	)
}

// One that did nothing is Committed, but in no op.
func TestHistoryOfThoseThatDidNothing(t *testing.T) {
	talk(t, "begin 2 -> 1", "commit 1 -> commit", "begin 2 -> 2", "read 2 0 -> error 8", "abort 2 -> abort", "history -> history ", "line -> line ")
}

func TestLineThatIsNone(t *testing.T) {
	talk(t,
		"begin 1 -> 1",
		"begin 1 -> 2",
		"read 1 3 -> error 8",
		"read 2 4 -> error 8",
		"write 1 4 7 -> write",
		"write 2 3 8 -> write",
		"commit 1 -> commit",
		"commit 2 -> commit",
		"history -> history 1 r 3 0, 1 w 4, 2 r 4 0, 2 w 3",
		"line -> error 11",
		"all -> all 3 8, 4 7",
	)
}

// What a disk had when it was opened nobody of the engine wrote.
func TestHistoryBehindOpen(t *testing.T) {
	talk(t,
		"begin 0 -> 1", "write 1 3 7 -> write", "commit 1 -> commit",
		"open -> open",
		"history -> history ",
		"begin 2 -> 1",
		"read 1 3 -> is 7",
		"commit 1 -> commit",
		"history -> history 1 r 3 0",
		"line -> line 1",
	)
}

func TestCutAndOpen(t *testing.T) {
	talk(t,
		"cut 1 -1 -> cut",
		"begin 0 -> 1", "write 1 3 7 -> write", "commit 1 -> commit",
		"begin 0 -> 2", "write 2 3 8 -> write", "commit 2 -> error 14",
		"state 2 -> 0 0",
		"commit 2 -> error 6",
		"cut -1 0 -> cut",
		"commit 2 -> error 6",                // it stays Down, though the power is on
		"begin 0 -> 3", "commit 3 -> commit", // what wrote nothing needs no power
		"now -> 3 1 1 1 true",
		"open -> open",
		"now -> 0 1 1 1 false",
		"all -> all 3 7",
		"begin 0 -> 1", "write 1 3 9 -> write", "commit 1 -> commit",
		"now -> 1 2 2 2 false",
	)
}

func TestOpenLetsThePowerBeOn(t *testing.T) {
	for _, cut := range []string{"cut 0 0", "cut 0 100", "cut 1 3", "cut 2 -5"} {
		told := []string{cut + " -> cut", "open -> open"}
		for n := range 4 {
			tx := strconv.Itoa(n + 1)
			told = append(told, "begin 1 -> "+tx, "write "+tx+" 1 1 -> write", "commit "+tx+" -> commit")
		}
		talk(t, append(told, "now -> 4 4 4 4 false")...)
	}
}

// Without Cut ahead of it the power stays as Cut has set it: behind so many writes more it is off.
func TestCutCountsWrites(t *testing.T) {
	for cut := range 5 {
		told := []string{"cut " + strconv.Itoa(cut) + " 7 -> cut"}
		for n := range 6 {
			tx, answer := strconv.Itoa(n+1), "commit"
			if n == cut {
				answer = "error 14"
			} else if n > cut {
				answer = "error 6"
			}
			told = append(told, "begin 1 -> "+tx, "write "+tx+" "+tx+" 1 -> write", "commit "+tx+" -> "+answer)
		}
		many := strconv.Itoa(cut)
		talk(t, append(told, "now -> 6 "+many+" "+many+" "+many+" true", "open -> open", "now -> 0 "+many+" "+many+" "+many+" false")...)
	}
}

// Whatever is torn, the disk has all of the commits ahead, and nothing of that one.
func TestTornIsNotSeen(t *testing.T) {
	for torn := -1; torn < 40; torn++ {
		talk(t,
			"begin 0 -> 1", "write 1 3 7 -> write", "commit 1 -> commit",
			"cut 0 "+strconv.Itoa(torn)+" -> cut",
			"begin 0 -> 2", "write 2 3 8 -> write", "write 2 4 8 -> write", "commit 2 -> error 14",
			"open -> open",
			"all -> all 3 7",
			"now -> 0 1 1 1 false",
			"begin 0 -> 1", "write 1 5 9 -> write", "commit 1 -> commit",
			"open -> open",
			"all -> all 3 7, 5 9",
		)
	}
}

// What was not committed is not there behind open, nor who did it.
func TestOpenForgetsWhoIsNotOver(t *testing.T) {
	talk(t,
		"begin 0 -> 1", "write 1 3 7 -> write",
		"open -> open",
		"state 1 -> error 7",
		"commit 1 -> error 7",
		"begin 0 -> 1", "read 1 3 -> error 8", "write 1 3 8 -> write", "commit 1 -> commit",
		"all -> all 3 8",
	)
}

func TestDiskThatIsFull(t *testing.T) {
	var told []string
	for n := range api.MaxLog {
		tx := n%125 + 1
		if n == 125 {
			told = append(told, "open -> open")
		}
		s := strconv.Itoa(tx)
		told = append(told, "begin 0 -> "+s, "write "+s+" 1 1 -> write", "commit "+s+" -> commit")
	}
	talk(t, append(told,
		"begin 0 -> 126", "write 126 1 2 -> write", "commit 126 -> error 4", "state 126 -> 0 0",
		"now -> 126 250 126 250 false",
	)...)
}

func TestHelp(t *testing.T) {
	const words = "abort all begin commit cut help history line now open read state sweep waits write"
	talk(t, "help -> "+words, "help x -> error 3", "help 1 -> error 3", " help   -> "+words)
}

// Each of the words that help tells is one, and no other.
func TestHelpTellsEachWord(t *testing.T) {
	words := strings.Fields(desk.Session("help"))
	for _, w := range words {
		if _, known := counts()[w]; !known {
			t.Errorf("help tells %q", w)
		}
	}
	if len(words) != len(counts()) {
		t.Errorf("help: %q", words)
	}
}

// P4: of another session, or of the same one earlier, nothing is left.
func TestSessionsAreTheirOwn(t *testing.T) {
	const text = "cut 1 0\nbegin 2\nwrite 1 3 7\ncommit 1\nbegin 2\nwrite 2 3 8\ncommit 2\nnow\nall"
	const want = "cut\n1\nwrite\ncommit\n2\nwrite\nerror 14\n2 1 1 1 true\nall 3 7\n"
	for range 3 {
		whole(t, text, want)
		whole(t, "now", "0 0 0 0 false\n")
	}
}
