package rmsg_test

import (
	"testing"

	"decamp/api"
	"decamp/rmsg"
)

// P11.1: a message is the same as itself, and as another one in other memory, right or not.
func TestSameAsItself(t *testing.T) {
	for _, m := range append(rights(), wrongs()...) {
		if !rmsg.Same(m, m) || !rmsg.Same(m, own(m)) || !rmsg.Same(own(m), m) {
			t.Errorf("not the same as itself: %s", show(m))
		}
	}
}

// P11.1: any two messages are the same if all of both is alike, and only then.
func TestSameOfAnyTwo(t *testing.T) {
	l := append(rights(), wrongs()...)
	keys := make([]string, len(l))
	for k, m := range l {
		keys[k] = key(m)
	}
	for a := range l {
		for b := range l {
			if want := keys[a] == keys[b]; rmsg.Same(l[a], l[b]) != want {
				t.Fatalf("Same is %v of %s and %s", !want, show(l[a]), show(l[b]))
			}
		}
	}
}

// full is a message in which nothing is zero, which isn't right.
func full() rmsg.Msg {
	return rmsg.Msg{
		Kind: 5, From: 1, To: 2, Term: 3, Index: 4, LogTerm: 5, Commit: 6, Ctx: 7, Ok: true,
		Entries: []api.Entry{{Index: 8, Term: 9, Data: []byte("ab")}, {Index: 10, Term: 11, Data: []byte("cd")}},
		Snap:    api.Snap{Index: 12, Term: 13, Data: []byte("ef")},
	}
}

// P11.1: messages in which one field is another one aren't the same, each field in turn.
func TestSameOfOneField(t *testing.T) {
	for name, change := range map[string]func(m *rmsg.Msg){
		"Kind":            func(m *rmsg.Msg) { m.Kind++ },
		"Kind, far":       func(m *rmsg.Msg) { m.Kind += 256 },
		"From":            func(m *rmsg.Msg) { m.From++ },
		"From, far":       func(m *rmsg.Msg) { m.From += 256 },
		"To":              func(m *rmsg.Msg) { m.To++ },
		"To, far":         func(m *rmsg.Msg) { m.To += 256 },
		"From and To":     func(m *rmsg.Msg) { m.From, m.To = m.To, m.From },
		"Term":            func(m *rmsg.Msg) { m.Term = -m.Term },
		"Term, far":       func(m *rmsg.Msg) { m.Term += 1 << 32 },
		"Index":           func(m *rmsg.Msg) { m.Index++ },
		"LogTerm":         func(m *rmsg.Msg) { m.LogTerm++ },
		"Commit":          func(m *rmsg.Msg) { m.Commit++ },
		"Ctx":             func(m *rmsg.Msg) { m.Ctx++ },
		"Ok":              func(m *rmsg.Msg) { m.Ok = false },
		"no entries":      func(m *rmsg.Msg) { m.Entries = nil },
		"fewer entries":   func(m *rmsg.Msg) { m.Entries = m.Entries[:1] },
		"other entries":   func(m *rmsg.Msg) { m.Entries = m.Entries[1:] },
		"more entries":    func(m *rmsg.Msg) { m.Entries = append(m.Entries, api.Entry{}) },
		"order":           func(m *rmsg.Msg) { m.Entries[0], m.Entries[1] = m.Entries[1], m.Entries[0] },
		"entry's Index":   func(m *rmsg.Msg) { m.Entries[1].Index++ },
		"entry's Term":    func(m *rmsg.Msg) { m.Entries[0].Term++ },
		"entry's Data":    func(m *rmsg.Msg) { m.Entries[1].Data[1]++ },
		"entry's no Data": func(m *rmsg.Msg) { m.Entries[0].Data = nil },
		"Snap":            func(m *rmsg.Msg) { m.Snap = api.Snap{} },
		"Snap's Index":    func(m *rmsg.Msg) { m.Snap.Index++ },
		"Snap's Term":     func(m *rmsg.Msg) { m.Snap.Term++ },
		"Snap's Data":     func(m *rmsg.Msg) { m.Snap.Data[0]++ },
		"Snap's more":     func(m *rmsg.Msg) { m.Snap.Data = append(m.Snap.Data, 0) },
		"Snap's no Data":  func(m *rmsg.Msg) { m.Snap.Data = nil },
	} {
		for _, m := range []rmsg.Msg{full(), with(full(), change)} {
			if rmsg.Same(with(m, change), m) || rmsg.Same(m, with(m, change)) {
				// Ok, From and To, and what becomes nothing may not change any more when it is changed again.
				if alike(m, with(m, change)) {
					continue
				}
				t.Errorf("the same, though one has another %s: %s", name, show(m))
			}
		}
	}
}

// R4: no entries and no Data are the same, nil or not.
func TestSameOfEmpty(t *testing.T) {
	a := rmsg.Msg{Kind: 5, Entries: []api.Entry{{Index: 1, Term: 1}}}
	b := rmsg.Msg{Kind: 5, Entries: []api.Entry{{Index: 1, Term: 1, Data: []byte{}}}, Snap: api.Snap{Data: []byte{}}}
	if !rmsg.Same(a, b) || !rmsg.Same(b, a) {
		t.Error("nil Data isn't the same as empty")
	}
	a, b = rmsg.Msg{}, rmsg.Msg{Entries: []api.Entry{}}
	if !rmsg.Same(a, b) || !rmsg.Same(b, a) {
		t.Error("nil entries aren't the same as empty ones")
	}
	if !rmsg.Same(rmsg.Msg{}, rmsg.Msg{}) {
		t.Error("a zero message isn't the same as another one")
	}
}
