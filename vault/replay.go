package vault

import (
	"decamp/api"
	"decamp/entry"
	"decamp/octets"
)

// told is what the records of a log tell, one behind the other.
type told struct {
	hard    api.Hard
	entries []api.Entry
}

// replay answers what these records tell, or that one of them is wrong.
func replay(records [][]byte) (told, bool) {
	t := told{hard: api.Hard{Vote: -1}}
	for _, record := range records {
		if !t.take(record) {
			return told{}, false
		}
	}
	return t, true
}

// take lets one more record tell, or answers that it is wrong.
func (t *told) take(record []byte) bool {
	i := octets.NewIn(record)
	switch i.Byte() {
	case hardMark:
		t.hard = entry.GetHard(i)
		return i.Done()
	case entryMark:
		x := entry.Get(i)
		return i.Done() && t.place(x)
	}
	return false
}

// place lets x stand in its place, with none behind it, or answers that it doesn't go with those ahead of it.
func (t *told) place(x api.Entry) bool {
	l := t.entries
	for len(l) > 0 && l[len(l)-1].Index >= x.Index {
		l = l[:len(l)-1]
	}
	// The first one of all may stand anywhere: only a snap tells whether it goes with that.
	if n := len(l); n > 0 && !entry.Run(l[n-1].Index, l[n-1].Term, []api.Entry{x}) {
		return false
	}
	t.entries = append(l, x)
	return true
}

// behind answers those of the entries that a vault has behind a snap: none, if the snap isn't of a log that had them.
func behind(s api.Snap, l []api.Entry) []api.Entry {
	for n, x := range l {
		if x.Index == s.Index && x.Term == s.Term {
			return l[n+1:]
		}
	}
	if len(l) > 0 && l[0].Index == s.Index+1 {
		return l
	}
	return nil
}
