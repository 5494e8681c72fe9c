package base

import "interleaf/api"

// A commit's bytes are: how many writes it has, in one byte; of each of them the key, in one byte, and the value; and the sum of all that.
const (
	numberSize = 8
	writeSize  = 1 + numberSize
)

// record is a commit's bytes.
func record(writes []api.Write) []byte {
	l := []byte{byte(len(writes))} // at most one a key
	for _, w := range writes {
		l = append(l, byte(w.Key))
		l = appendNumber(l, uint64(w.Value))
	}
	return appendNumber(l, sum(l))
}

// isWhole says whether bytes are all those of a commit.
func isWhole(l []byte) bool {
	// The sum alone could be right by chance: bytes without the last one never have the length.
	if len(l) == 0 || len(l) != 1+int(l[0])*writeSize+numberSize {
		return false
	}
	end := len(l) - numberSize
	return number(l[end:]) == sum(l[:end])
}

// writesOf is what a commit wrote, of bytes that are whole.
func writesOf(l []byte) []api.Write {
	var writes []api.Write
	for i := range int(l[0]) {
		w := l[1+i*writeSize:]
		writes = append(writes, api.Write{Key: int(w[0]), Value: int(number(w[1:]))})
	}
	return writes
}

// sum is made of bytes, and of where they stand: with one of them changed, or two swapped, it is another one.
func sum(l []byte) uint64 {
	var s uint64
	for i := range len(l) {
		s = s*257 + uint64(l[i]) + 1
	}
	return s
}

// appendNumber adds a number's bytes, the lowest first.
func appendNumber(l []byte, n uint64) []byte {
	for i := range numberSize {
		l = append(l, byte(n>>(8*i)))
	}
	return l
}

// number is that of which these are the first bytes.
func number(l []byte) uint64 {
	var n uint64
	for i := range numberSize {
		n |= uint64(l[i]) << (8 * i)
	}
	return n
}
