package wal

import (
	"bytes"

	"decamp/api"
	"decamp/sum"
)

const (
	// wordSize is how many bytes a length has, and how many a sum.
	wordSize = 4
	// headSize is how many bytes of a frame stand ahead of its record.
	headSize = 2 * wordSize
)

// Frame answers the frame of a record.
func Frame(b []byte) ([]byte, api.Errno) {
	return frames(b)
}

// Scan answers the records of the whole frames with which b begins, and where they end.
func Scan(b []byte) ([][]byte, int) {
	var records [][]byte
	end := 0
	for {
		record, ok := first(b[end:])
		if !ok {
			return records, end
		}
		records = append(records, bytes.Clone(record))
		end += headSize + len(record)
	}
}

// first answers the record of the whole frame with which b begins, if there is one. It is b's own memory.
func first(b []byte) ([]byte, bool) {
	if len(b) < headSize {
		return nil, false
	}
	length, rest := b[:wordSize], b[headSize:]
	// A length may lie as well as any other byte: room is made only for what is there.
	n := number(length)
	if n > api.MaxRecord || int(n) > len(rest) {
		return nil, false
	}
	record := rest[:n]
	if number(b[wordSize:headSize]) != seal(length, record) {
		return nil, false
	}
	return record, true
}

// frames answers the frames of records, one behind the other.
func frames(records ...[]byte) ([]byte, api.Errno) {
	size := 0
	for _, record := range records {
		if len(record) > api.MaxRecord {
			return nil, api.ErrLong
		}
		size += headSize + len(record)
	}
	all := make([]byte, 0, size)
	for _, record := range records {
		length := word(uint32(len(record)))
		all = append(all, length...)
		all = append(all, word(seal(length, record))...)
		all = append(all, record...)
	}
	return all, api.OK
}

// seal is the sum of a frame. It goes over the length too, for with another one the record were another one.
func seal(length, record []byte) uint32 {
	return sum.More(sum.Of(length), record)
}

// word is a number as bytes, the highest one first.
func word(v uint32) []byte {
	return []byte{byte(v >> 24), byte(v >> 16), byte(v >> 8), byte(v)}
}

// number is what word made these bytes of.
func number(b []byte) uint32 {
	v := uint32(0)
	for _, c := range b {
		v = v<<8 | uint32(c)
	}
	return v
}
