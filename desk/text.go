package desk

import (
	"strconv"
	"strings"

	"interleaf/api"
)

// wordsOf are a line's words. Only a blank is between them: a tab is a word's as any other byte.
func wordsOf(line string) []string {
	return strings.FieldsFunc(line, func(r rune) bool { return r == ' ' })
}

// numbersOf are the numbers that words are. Thrown: ErrForm, if one is none.
func numbersOf(words []string) []int {
	var l []int
	for _, w := range words {
		n, err := strconv.Atoi(w)
		// Atoi takes a plus, noughts ahead and -0, too: a number is as it is told.
		if err != nil || strconv.Itoa(n) != w {
			throw(api.ErrForm)
		}
		l = append(l, n)
	}
	return l
}

// tellNumbers are numbers as a text.
func tellNumbers(numbers ...int) string {
	var l []string
	for _, n := range numbers {
		l = append(l, strconv.Itoa(n))
	}
	return strings.Join(l, " ")
}

// tellList are things as a text, by the text of one.
func tellList[T any](things []T, tell func(T) string) string {
	var l []string
	for _, t := range things {
		l = append(l, tell(t))
	}
	return strings.Join(l, ", ")
}

// tellWrite is a key, and its value.
func tellWrite(w api.Write) string { return tellNumbers(w.Key, w.Value) }

// tellOp is who read a key, and of whom; or who wrote it.
func tellOp(o api.Op) string {
	if o.Write {
		return strconv.Itoa(o.Tx) + " w " + strconv.Itoa(o.Key)
	}
	return strconv.Itoa(o.Tx) + " r " + tellNumbers(o.Key, o.From)
}

// tellError is the number of an error.
func tellError(err error) string { return "error " + strconv.Itoa(int(api.Tell(err))) }
