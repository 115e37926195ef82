package entry

import (
	"decamp/api"
	"decamp/octets"
)

// Put puts e, if it is right, or else a zero one.
func Put(o *octets.Out, e api.Entry) {
	if !Right(e) {
		e = api.Entry{}
	}
	put(o, e)
}

// Get takes an entry that is right.
func Get(i *octets.In) api.Entry {
	e := take(i, api.MaxData)
	if !sound(i, Right(e)) {
		return api.Entry{}
	}
	return e
}

// PutHard puts h, if it is right, or else a zero one.
func PutHard(o *octets.Out, h api.Hard) {
	if !RightHard(h) {
		h = api.Hard{}
	}
	o.Num(h.Term)
	o.Num(int64(h.Vote))
}

// GetHard takes what is hard and right.
func GetHard(i *octets.In) api.Hard {
	term, vote := i.Num(), i.Num()
	h := api.Hard{Term: term, Vote: int(vote)}
	// An int may be narrower than what was taken: what it loses mustn't make a Vote right.
	if !sound(i, int64(h.Vote) == vote && RightHard(h)) {
		return api.Hard{}
	}
	return h
}

// PutSnap puts s, if it is right, or else a zero one.
func PutSnap(o *octets.Out, s api.Snap) {
	if !RightSnap(s) {
		s = api.Snap{}
	}
	put(o, api.Entry(s))
}

// GetSnap takes a snap that is right.
func GetSnap(i *octets.In) api.Snap {
	s := api.Snap(take(i, api.MaxWhole))
	if !sound(i, RightSnap(s)) {
		return api.Snap{}
	}
	return s
}

// put puts an entry, or what has an entry's fields, as it is.
func put(o *octets.Out, e api.Entry) {
	o.Num(e.Index)
	o.Num(e.Term)
	o.Bytes(e.Data)
}

// take takes what was put so, with most bytes of Data at most.
func take(i *octets.In, most int) api.Entry {
	index, term := i.Num(), i.Num()
	return api.Entry{Index: index, Term: term, Data: i.Bytes(most)}
}

// sound tells whether what was taken of i may be answered: it is right, and it was there, since what is cut off may look right, too.
func sound(i *octets.In, right bool) bool {
	if !right {
		i.Fail()
	}
	return !i.Bad()
}
