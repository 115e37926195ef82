package vault

import (
	"decamp/api"
	"decamp/entry"
	"decamp/octets"
	"decamp/wal"
)

const (
	// hardMark stands ahead of what is hard, in a record of the log.
	hardMark = 1
	// entryMark stands ahead of an entry.
	entryMark = 2
)

// hardRecord is the record of what is hard.
func hardRecord(h api.Hard) []byte {
	var o octets.Out
	o.Byte(hardMark)
	entry.PutHard(&o, h)
	return ended(&o)
}

// entryRecords are the records of entries.
func entryRecords(l []api.Entry) [][]byte {
	records := make([][]byte, 0, len(l))
	for _, x := range l {
		var o octets.Out
		o.Byte(entryMark)
		entry.Put(&o, x)
		records = append(records, ended(&o))
	}
	return records
}

// snapRecord is a snap as bytes, without its frame.
func snapRecord(s api.Snap) []byte {
	var o octets.Out
	entry.PutSnap(&o, s)
	return ended(&o)
}

// ended is all that was put. Nothing that is right is too long for a record.
func ended(o *octets.Out) []byte {
	b, _ := o.End()
	return b
}

// framedSnap answers the snap whose frame b is.
func framedSnap(b []byte) (api.Snap, api.Errno) {
	records, end := wal.Scan(b)
	if len(records) != 1 || end != len(b) {
		return api.Snap{}, api.ErrForm
	}
	i := octets.NewIn(records[0])
	s := entry.GetSnap(i)
	if !i.Done() || isZero(s) {
		return api.Snap{}, api.ErrForm
	}
	return s, api.OK
}
