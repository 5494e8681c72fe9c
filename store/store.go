// Package store: values as they were committed.
package store

import (
	"slices"

	"interleaf/api"
)

// Store has versions of keys. Its zero value has none.
type Store struct {
	last int
	keys [api.MaxKeys][]api.Version // of each key, rising by their times
}

// Last is the last commit's time; 0: there was none.
func (s *Store) Last() int { return s.last }

// Install commits writes, one behind the other, at a time. ErrOrder: it is not above the last one's, or above MaxNumber; ErrRange: there is no such key; ErrArg: a value is not from -MaxNumber to MaxNumber: an At at the first write that may not be.
func (s *Store) Install(at int, l []api.Write) error {
	if at <= s.last || at > api.MaxNumber {
		return api.ErrOrder
	}
	// All of them are looked at ahead of the first one's put: with an error nothing is changed.
	for i, w := range l {
		if e := wrong(w); e != api.OK {
			return &api.At{Err: e, Place: i}
		}
	}
	for _, w := range l {
		s.put(at, w)
	}
	s.last = at
	return nil
}

// Read is a key's version as it was at a time. ErrRange: there is no such key; ErrNone: it had none.
func (s *Store) Read(k, at int) (api.Version, error) {
	if !isKey(k) {
		return api.Version{}, api.ErrRange
	}
	i := latest(s.keys[k], at)
	if i < 0 {
		return api.Version{}, api.ErrNone
	}
	return s.keys[k][i], nil
}

// Newer are the times of a key's versions that are later than a time, rising. ErrRange.
func (s *Store) Newer(k, at int) ([]int, error) {
	if !isKey(k) {
		return nil, api.ErrRange
	}
	var times []int
	for _, v := range s.keys[k][latest(s.keys[k], at)+1:] {
		times = append(times, v.At)
	}
	return times, nil
}

// Sweep drops the versions that nobody reads who reads as of a time, or later: how many.
func (s *Store) Sweep(at int) int {
	dropped := 0
	for k, l := range s.keys {
		if i := latest(l, at); i > 0 {
			// A copy, since a piece of the old list would keep what is dropped in memory.
			s.keys[k] = slices.Clone(l[i:])
			dropped += i
		}
	}
	return dropped
}

// Many is how many versions there are, of all keys.
func (s *Store) Many() int {
	n := 0
	for _, l := range s.keys {
		n += len(l)
	}
	return n
}

// All is what each key has at a time: those that have something, by their keys.
func (s *Store) All(at int) []api.Write {
	var all []api.Write
	for k, l := range s.keys {
		if i := latest(l, at); i >= 0 {
			all = append(all, api.Write{Key: k, Value: l[i].Value})
		}
	}
	return all
}

// put lets a key have a value at a time that is not below its last version's. If that one is of the same time, the same commit wrote it, and only its last write counts.
func (s *Store) put(at int, w api.Write) {
	l := s.keys[w.Key]
	if n := len(l); n > 0 && l[n-1].At == at {
		l[n-1].Value = w.Value
		return
	}
	s.keys[w.Key] = append(l, api.Version{At: at, Value: w.Value})
}

// latest is where the latest version that is not later than a time stands; -1: there is none. From behind, since who reads is mostly near the end.
func latest(l []api.Version, at int) int {
	for i, v := range slices.Backward(l) {
		if v.At <= at {
			return i
		}
	}
	return -1
}

// isKey says whether there is such a key.
func isKey(k int) bool { return k >= 0 && k < api.MaxKeys }

// wrong is what may not be so of a write; OK: nothing.
func wrong(w api.Write) api.Errno {
	switch {
	case !isKey(w.Key):
		return api.ErrRange
	case w.Value < -api.MaxNumber || w.Value > api.MaxNumber:
		return api.ErrArg
	}
	return api.OK
}
