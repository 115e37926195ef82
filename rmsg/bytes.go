package rmsg

import (
	"decamp/api"
	"decamp/entry"
	"decamp/octets"
)

// Put puts m, if it is right, or else a byte 0 alone.
func Put(o *octets.Out, m Msg) {
	if !Right(m) {
		o.Byte(0)
		return
	}
	o.Byte(byte(m.Kind))
	o.Byte(byte(m.From))
	o.Byte(byte(m.To))
	o.Num(m.Term)
	o.Num(m.Index)
	o.Num(m.LogTerm)
	o.Num(m.Commit)
	o.Num(m.Ctx)
	o.Flag(m.Ok)
	o.Count(len(m.Entries))
	for _, e := range m.Entries {
		entry.Put(o, e)
	}
	if m.Kind == Whole {
		entry.PutSnap(o, m.Snap)
	}
}

// Get takes a message that is right.
func Get(i *octets.In) Msg {
	m := take(i)
	if !Right(m) {
		i.Fail()
	}
	// What is cut off may look right, too.
	if i.Bad() {
		return Msg{}
	}
	return m
}

// take takes what was put so, right or not.
func take(i *octets.In) Msg {
	m := Msg{Kind: int(i.Byte()), From: int(i.Byte()), To: int(i.Byte())}
	m.Term = i.Num()
	m.Index = i.Num()
	m.LogTerm = i.Num()
	m.Commit = i.Num()
	m.Ctx = i.Num()
	m.Ok = i.Flag()
	for range i.Count(api.MaxBatch) {
		m.Entries = append(m.Entries, entry.Get(i))
	}
	if m.Kind == Whole {
		m.Snap = entry.GetSnap(i)
	}
	return m
}
