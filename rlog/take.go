package rlog

import (
	"decamp/api"
	"decamp/entry"
)

// Take lets the log have the entries more behind index, if it has that index with that term.
// It answers up to where the log is then as who sent them has it, or else where that one had better try next, and whether they are there.
func (l *Log) Take(index, term int64, more []api.Entry) (int64, bool) {
	if l == nil || !entry.Run(index, term, more) {
		return 0, false
	}
	if own, ok := l.Term(index); !ok || own != term {
		return l.retry(index), false
	}
	known := l.known(more)
	if known < len(more) {
		l.replace(more[known:])
	}
	return index + int64(len(more)), true
}

// retry answers the index to be tried when this one isn't there as it was told.
func (l *Log) retry(index int64) int64 {
	last, _ := l.Last()
	// Below the lowest index of all there is none.
	if index <= l.index {
		return l.index
	}
	return min(index-1, last)
}

// known tells how many of more, from the first one on, are there with their terms.
func (l *Log) known(more []api.Entry) int {
	for n, e := range more {
		if own, ok := l.Term(e.Index); !ok || own != e.Term {
			return n
		}
	}
	return len(more)
}

// replace lets the entries of more stand there, instead of all those from the first one's index on.
func (l *Log) replace(more []api.Entry) {
	keep := int(more[0].Index - l.index - 1)
	// What is gone and not written over is still reached from the rest: let its Data go now.
	clear(l.entries[keep:])
	l.entries = append(l.entries[:keep], copies(more)...)
	l.saved = min(l.saved, keep)
}
