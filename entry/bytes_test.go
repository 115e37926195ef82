package entry_test

import (
	"bytes"
	"encoding/binary"
	"encoding/hex"
	"fmt"
	"math"
	"math/rand"
	"slices"
	"strings"
	"testing"

	"decamp/api"
	"decamp/entry"
	"decamp/octets"
)

// kind is one of the three that are put and taken.
// So that all three are held alike, each is told as an api.Entry here: what is hard has its Term as Index, and its Vote as Term.
type kind struct {
	name string
	// most is how many bytes of Data there are at most; below 0 if there is no Data.
	most int
	put  func(o *octets.Out, e api.Entry)
	get  func(i *octets.In) api.Entry
}

func kinds() []kind {
	return []kind{
		{"entry", api.MaxData, entry.Put, entry.Get},
		{"snap", api.MaxWhole,
			func(o *octets.Out, e api.Entry) {
				entry.PutSnap(o, api.Snap{Index: e.Index, Term: e.Term, Data: e.Data})
			},
			func(i *octets.In) api.Entry {
				s := entry.GetSnap(i)
				return api.Entry{Index: s.Index, Term: s.Term, Data: s.Data}
			}},
		{"hard", -1,
			func(o *octets.Out, e api.Entry) { entry.PutHard(o, api.Hard{Term: e.Index, Vote: int(e.Term)}) },
			func(i *octets.In) api.Entry {
				h := entry.GetHard(i)
				return api.Entry{Index: h.Term, Term: int64(h.Vote)}
			}},
	}
}

// told are the bytes of one of a kind as the chapter says them, right or not, without the program's own code.
func (k kind) told(e api.Entry) []byte {
	b := binary.BigEndian.AppendUint64(nil, uint64(e.Index))
	b = binary.BigEndian.AppendUint64(b, uint64(e.Term))
	if k.most < 0 {
		return b
	}
	return append(binary.BigEndian.AppendUint32(b, uint32(len(e.Data))), e.Data...)
}

// rights are ones of that kind that are right, at the edges.
func (k kind) rights() []api.Entry {
	if k.most < 0 {
		l := []api.Entry{}
		for _, term := range []int64{0, 1, 258, api.MaxRev - 1, api.MaxRev} {
			for vote := int64(-1); vote < api.MaxNodes; vote++ {
				l = append(l, api.Entry{Index: term, Term: vote})
			}
		}
		return l
	}
	l := []api.Entry{
		{Index: 1, Term: 1},
		{Index: 1, Term: api.MaxRev, Data: []byte{}},
		{Index: api.MaxRev, Term: 1, Data: []byte{0}},
		{Index: api.MaxRev, Term: api.MaxRev, Data: []byte("ab")},
		{Index: 0x0102030405, Term: 0x060708090a, Data: data(256)},
		{Index: 2, Term: 1, Data: data(k.most - 1)},
		{Index: 1, Term: 2, Data: data(k.most)},
	}
	if k.name == "snap" {
		l = append(l, api.Entry{}, api.Entry{Data: []byte{}})
	}
	return l
}

// wrongs are ones of that kind that aren't right, at the edges.
func (k kind) wrongs() []api.Entry {
	l := []api.Entry{}
	for _, v := range []int64{math.MinInt64, -api.MaxRev, -1, api.MaxRev + 1, 1<<41 + 1, math.MaxInt64} {
		l = append(l, api.Entry{Index: v, Term: 1})
	}
	if k.most < 0 {
		for _, vote := range []int64{math.MinInt, -3, -2, api.MaxNodes, api.MaxNodes + 1, 256, math.MaxInt} {
			l = append(l, api.Entry{Index: 0, Term: vote}, api.Entry{Index: 5, Term: vote})
		}
		return append(l, api.Entry{Index: -1, Term: -2})
	}
	for _, v := range []int64{math.MinInt64, -api.MaxRev, -1, api.MaxRev + 1, 1<<41 + 1, math.MaxInt64} {
		l = append(l, api.Entry{Index: 1, Term: v, Data: []byte("ab")}, api.Entry{Term: v})
	}
	l = append(l,
		api.Entry{Index: 1, Term: 0},
		api.Entry{Index: 0, Term: 1},
		api.Entry{Index: 0, Term: 1, Data: []byte("ab")},
		api.Entry{Index: 7, Term: 0, Data: []byte("ab")},
		api.Entry{Data: []byte("a")},
		api.Entry{Data: data(k.most)},
		api.Entry{Index: 1, Term: 1, Data: data(k.most + 1)},
		api.Entry{Index: api.MaxRev, Term: api.MaxRev, Data: data(k.most + 1000)},
	)
	if k.name == "entry" {
		l = append(l, api.Entry{}, api.Entry{Index: 3, Term: 3, Data: data(api.MaxWhole)})
	}
	return l
}

// raw are the bytes of a hex text with spaces in it.
func raw(t *testing.T, text string) []byte {
	t.Helper()
	b, err := hex.DecodeString(strings.ReplaceAll(text, " ", ""))
	if err != nil {
		t.Fatal(err)
	}
	return b
}

// ended is what End answers of an Out that isn't too long.
func ended(t *testing.T, o *octets.Out) []byte {
	t.Helper()
	b, e := o.End()
	if e != api.OK {
		t.Fatalf("End: %v", e)
	}
	return b
}

// alike tells whether two are, Data of no bytes nil or not.
func alike(a, b api.Entry) bool {
	return a.Index == b.Index && a.Term == b.Term && bytes.Equal(a.Data, b.Data)
}

// show is one as a text that isn't long.
func show(e api.Entry) string {
	return fmt.Sprintf("%d, %d, %d bytes %.20x", e.Index, e.Term, len(e.Data), e.Data)
}

// spoil writes to all of b, and to its spare room.
func spoil(b []byte) {
	b = b[:cap(b)]
	for i := range b {
		b[i] = 0xee
	}
}

// isBad holds that an answer is zero, and that the In it was taken of is bad.
func isBad(t *testing.T, what string, i *octets.In, got api.Entry) {
	t.Helper()
	if got.Index != 0 || got.Term != 0 || len(got.Data) != 0 || !i.Bad() || i.Left() != 0 || i.Done() {
		t.Errorf("%s: %s, Bad %v, Left %d, Done %v", what, show(got), i.Bad(), i.Left(), i.Done())
	}
}

// P7.2: the bytes of each, written out.
func TestBytes(t *testing.T) {
	for _, c := range []struct {
		name string
		put  func(o *octets.Out)
		want string
	}{
		{"an entry", func(o *octets.Out) { entry.Put(o, api.Entry{Index: 1, Term: 2, Data: []byte("ab")}) },
			"0000000000000001 0000000000000002 00000002 6162"},
		{"an entry of no Data", func(o *octets.Out) { entry.Put(o, api.Entry{Index: 258, Term: api.MaxRev}) },
			"0000000000000102 0000010000000000 00000000"},
		{"a zero entry", func(o *octets.Out) { entry.Put(o, api.Entry{}) },
			"0000000000000000 0000000000000000 00000000"},
		{"an entry of no Term", func(o *octets.Out) { entry.Put(o, api.Entry{Index: 1, Data: []byte("ab")}) },
			"0000000000000000 0000000000000000 00000000"},
		{"what is hard", func(o *octets.Out) { entry.PutHard(o, api.Hard{Term: 5, Vote: 2}) },
			"0000000000000005 0000000000000002"},
		{"a Vote of -1", func(o *octets.Out) { entry.PutHard(o, api.Hard{Term: 0, Vote: -1}) },
			"0000000000000000 ffffffffffffffff"},
		{"a Vote of 0", func(o *octets.Out) { entry.PutHard(o, api.Hard{Term: api.MaxRev, Vote: 0}) },
			"0000010000000000 0000000000000000"},
		{"a Vote of MaxNodes", func(o *octets.Out) { entry.PutHard(o, api.Hard{Term: 5, Vote: 3}) },
			"0000000000000000 0000000000000000"},
		{"a snap", func(o *octets.Out) { entry.PutSnap(o, api.Snap{Index: 3, Term: 1, Data: []byte{0, 255}}) },
			"0000000000000003 0000000000000001 00000002 00ff"},
		{"a zero snap", func(o *octets.Out) { entry.PutSnap(o, api.Snap{}) },
			"0000000000000000 0000000000000000 00000000"},
		{"a snap of Data alone", func(o *octets.Out) { entry.PutSnap(o, api.Snap{Data: []byte("ab")}) },
			"0000000000000000 0000000000000000 00000000"},
	} {
		var o octets.Out
		c.put(&o)
		if b := ended(t, &o); !bytes.Equal(b, raw(t, c.want)) {
			t.Errorf("%s: %x, want %s", c.name, b, c.want)
		}
	}
}

// P7.2: a right one is put as it is, behind what is there; what isn't right as a zero one.
func TestPut(t *testing.T) {
	for _, k := range kinds() {
		for _, e := range k.rights() {
			var o octets.Out
			o.Byte(9)
			k.put(&o, e)
			o.Byte(8)
			if b := ended(t, &o); !bytes.Equal(b, slices.Concat([]byte{9}, k.told(e), []byte{8})) {
				t.Errorf("%s %s is put as %.60x", k.name, show(e), b)
			}
		}
		for _, e := range k.wrongs() {
			var o octets.Out
			o.Byte(9)
			k.put(&o, e)
			o.Byte(8)
			if b := ended(t, &o); !bytes.Equal(b, slices.Concat([]byte{9}, k.told(api.Entry{}), []byte{8})) {
				t.Errorf("%s %s, which isn't right, is put as %.60x", k.name, show(e), b)
			}
		}
	}
}

// P7.2: what was put of a right one is taken as it was, and what is behind it is left.
func TestThereAndBack(t *testing.T) {
	for _, k := range kinds() {
		for _, e := range k.rights() {
			for _, behind := range []string{"", "\x00", "\xff\xff\xff\xff\xff\xff\xff\xff\xff"} {
				var o octets.Out
				k.put(&o, e)
				i := octets.NewIn(append(ended(t, &o), behind...))
				got := k.get(i)
				if !alike(got, e) || i.Bad() || i.Left() != len(behind) || i.Done() != (behind == "") {
					t.Errorf("%s %s is taken as %s, Bad %v, Left %d of %d", k.name, show(e), show(got), i.Bad(), i.Left(), len(behind))
				}
			}
		}
	}
}

// P7.2: what was put of what isn't right isn't taken, unless a zero one is right.
func TestThereAndBackOfWrong(t *testing.T) {
	for _, k := range kinds() {
		for _, e := range k.wrongs() {
			var o octets.Out
			k.put(&o, e)
			o.Num(1)
			i := octets.NewIn(ended(t, &o))
			got := k.get(i)
			if k.name == "entry" {
				isBad(t, k.name+" "+show(e), i, got)
			} else if !alike(got, api.Entry{}) || i.Bad() || i.Left() != 8 {
				t.Errorf("%s %s is taken as %s, Bad %v, Left %d", k.name, show(e), show(got), i.Bad(), i.Left())
			}
		}
	}
}

// P7.2: bytes that tell numbers or lengths that may not be make the In bad, and the answer is zero.
func TestGetOfWrong(t *testing.T) {
	for _, k := range kinds() {
		for _, e := range k.wrongs() {
			for _, behind := range []int{0, 1, 100} {
				i := octets.NewIn(append(k.told(e), make([]byte, behind)...))
				isBad(t, k.name+" "+show(e), i, k.get(i))
			}
		}
	}
}

// P7.2: a Vote that were right in fewer bits than it is told in isn't.
func TestGetOfFarVote(t *testing.T) {
	for _, vote := range []string{"0000000100000000", "0000000100000002", "00000000ffffffff", "00000001ffffffff", "8000000000000000", "8000000000000001", "ffffffff00000000", "00000000000000ff", "0000000000000100", "0000000000010000"} {
		i := octets.NewIn(raw(t, "0000000000000005"+vote))
		h := entry.GetHard(i)
		isBad(t, vote, i, api.Entry{Index: h.Term, Term: int64(h.Vote)})
	}
}

// P7.2: lengths that lie: of more bytes than there are, or than there may be.
func TestGetOfLengths(t *testing.T) {
	for _, k := range kinds()[:2] {
		for _, c := range []struct {
			length uint32
			there  int
			ok     bool
		}{
			{0, 0, true},
			{1, 0, false},
			{2, 1, false},
			{2, 3, true},
			{256, 255, false},
			{uint32(k.most), k.most, true},
			{uint32(k.most), k.most - 1, false},
			{uint32(k.most), k.most + 1, true},
			{uint32(k.most) + 1, k.most + 1, false},
			{uint32(k.most) + 1, k.most + 9, false},
			{1 << 31, 40, false},
			{math.MaxUint32, 40, false},
		} {
			b := binary.BigEndian.AppendUint32(k.told(api.Entry{Index: 4, Term: 3})[:16], c.length)
			rest := data(c.there)
			i := octets.NewIn(append(b, rest...))
			got := k.get(i)
			if !c.ok {
				isBad(t, fmt.Sprintf("%s of %d bytes of %d", k.name, c.length, c.there), i, got)
			} else if !alike(got, api.Entry{Index: 4, Term: 3, Data: rest[:c.length]}) || i.Bad() || i.Left() != c.there-int(c.length) {
				t.Errorf("%s of %d bytes of %d: %s, Bad %v, Left %d", k.name, c.length, c.there, show(got), i.Bad(), i.Left())
			}
		}
	}
}

// P7.2: what is cut off anywhere isn't taken, not even where what is there would be right.
func TestCutOff(t *testing.T) {
	for _, k := range kinds() {
		for _, e := range k.rights() {
			if len(e.Data) > 300 {
				continue
			}
			whole := k.told(e)
			for n := range whole {
				i := octets.NewIn(whole[:n])
				isBad(t, fmt.Sprintf("%s %s, cut off at %d", k.name, show(e), n), i, k.get(i))
			}
		}
		big := k.told(api.Entry{Index: 1, Term: 1, Data: data(max(k.most, 0))})
		i := octets.NewIn(big[:len(big)-1])
		isBad(t, k.name+" without its last byte", i, k.get(i))
	}
}

// P7.2: no other bytes are taken so: whatever a byte is, what is taken puts just these bytes, or it is bad.
func TestOtherBytes(t *testing.T) {
	for _, k := range kinds() {
		for _, e := range k.rights() {
			if len(e.Data) > 2 {
				continue
			}
			whole := k.told(e)
			for at := range whole {
				for v := range 256 {
					other := slices.Clone(whole)
					other[at] = byte(v)
					i := octets.NewIn(other)
					got := k.get(i)
					if i.Bad() {
						isBad(t, fmt.Sprintf("%s of %x", k.name, other), i, got)
						continue
					}
					var o octets.Out
					k.put(&o, got)
					if b := ended(t, &o); !bytes.Equal(append(b, other[len(other)-i.Left():]...), other) {
						t.Fatalf("%s: %s is taken of %x, and put as %x", k.name, show(got), other, b)
					}
				}
			}
		}
	}
}

// P7.2: many, one behind the other, of all kinds, as they were.
func TestManyThereAndBack(t *testing.T) {
	r := rand.New(rand.NewSource(72))
	all := kinds()
	for range 500 {
		var o octets.Out
		which, l, want := []kind{}, []api.Entry{}, []byte{}
		for range r.Intn(9) {
			k := all[r.Intn(3)]
			e := api.Entry{Index: 1 + r.Int63n(api.MaxRev)>>r.Intn(41), Term: 1 + r.Int63n(api.MaxRev)>>r.Intn(41), Data: data(r.Intn(40))}
			if k.most < 0 {
				e = api.Entry{Index: r.Int63n(api.MaxRev + 1), Term: int64(r.Intn(api.MaxNodes+1) - 1)}
			}
			which, l, want = append(which, k), append(l, e), append(want, k.told(e)...)
			k.put(&o, e)
		}
		b := ended(t, &o)
		if !bytes.Equal(b, want) {
			t.Fatalf("%v is put as %x, want %x", l, b, want)
		}
		i := octets.NewIn(b)
		for n, k := range which {
			if got := k.get(i); !alike(got, l[n]) {
				t.Fatalf("%s %s is taken as %s", k.name, show(l[n]), show(got))
			}
		}
		if !i.Done() {
			t.Fatalf("Left %d, Bad %v", i.Left(), i.Bad())
		}
	}
}

// P7.2: of an In that was bad before nothing is taken, and it stays bad.
func TestBadBefore(t *testing.T) {
	for _, k := range kinds() {
		whole := k.told(api.Entry{Index: 1, Term: 1})
		failed := octets.NewIn(whole)
		failed.Fail()
		flagged := octets.NewIn(append([]byte{2}, whole...))
		flagged.Flag()
		for name, i := range map[string]*octets.In{"Fail": failed, "a Flag of 2": flagged} {
			for range 2 {
				isBad(t, k.name+" behind "+name, i, k.get(i))
			}
		}
		for _, other := range kinds() {
			i := octets.NewIn(append(k.told(api.Entry{Index: -1}), other.told(api.Entry{Index: 1, Term: 1})...))
			isBad(t, k.name+" of -1", i, k.get(i))
			isBad(t, other.name+" behind a wrong "+k.name, i, other.get(i))
		}
		empty := octets.NewIn(nil)
		isBad(t, k.name+" of nothing", empty, k.get(empty))
	}
}

// filled is an Out of so many bytes.
func filled(n int) *octets.Out {
	o := new(octets.Out)
	for range n {
		o.Byte(1)
	}
	return o
}

// longest holds what is put where there is just room for so many bytes: one more and the Out is too long, and stays so.
func longest(t *testing.T, k kind, e api.Entry, size int) {
	t.Helper()
	o := filled(api.MaxRecord - size)
	k.put(o, e)
	if b := ended(t, o); len(b) != api.MaxRecord {
		t.Errorf("%s %s: %d bytes", k.name, show(e), len(b))
	}
	o = filled(api.MaxRecord - size + 1)
	for range 2 {
		k.put(o, e)
		if b, err := o.End(); err != api.ErrLong || len(b) != 0 {
			t.Errorf("%s %s, one over: %d bytes, %v", k.name, show(e), len(b), err)
		}
	}
}

// P7.2: as much as an Out may hold is put; one that is too long by it stays so.
func TestPutOfLong(t *testing.T) {
	for _, k := range kinds() {
		for _, e := range k.rights() {
			longest(t, k, e, len(k.told(e)))
		}
		for _, e := range k.wrongs() {
			longest(t, k, e, len(k.told(api.Entry{})))
		}
	}
	var o octets.Out
	most := api.Snap{Index: 1, Term: 1, Data: data(api.MaxWhole)}
	entry.PutSnap(&o, most)
	if b := ended(t, &o); len(b) != api.MaxWhole+20 {
		t.Errorf("a snap of MaxWhole bytes: %d", len(b))
	}
	entry.PutSnap(&o, most)
	if _, err := o.End(); err != api.ErrLong {
		t.Errorf("two snaps of MaxWhole bytes: %v", err)
	}
}

// R1: a nil Out takes nothing, and of a nil In all is zero.
func TestNil(t *testing.T) {
	for _, k := range kinds() {
		for _, e := range append(k.rights(), k.wrongs()...) {
			var o *octets.Out
			k.put(o, e)
			if b, err := o.End(); len(b) != 0 || err != api.ErrArg {
				t.Errorf("%s in a nil Out: %x, %v", k.name, b, err)
			}
		}
		var i *octets.In
		for range 2 {
			if got := k.get(i); got.Index != 0 || got.Term != 0 || len(got.Data) != 0 {
				t.Errorf("%s of a nil In: %s", k.name, show(got))
			}
		}
	}
}

// R3: what is put is kept as it was then, and what is handed in stays, with its spare room, right or not.
func TestPutKeepsNothing(t *testing.T) {
	for _, k := range kinds()[:2] {
		for _, size := range []int{0, 1, 7, 100, k.most, k.most + 1} {
			whole := data(size + 9)
			given := whole[:size]
			e := api.Entry{Index: 1, Term: 1, Data: given}
			want := k.told(e)
			if size > k.most {
				want = k.told(api.Entry{})
			}
			var o octets.Out
			k.put(&o, e)
			if !bytes.Equal(whole, data(size+9)) || len(given) != size {
				t.Errorf("%s of %d bytes: what was handed in is changed", k.name, size)
			}
			spoil(whole)
			if !bytes.Equal(ended(t, &o), want) {
				t.Errorf("%s of %d bytes: what was put changed with what was handed in", k.name, size)
			}
		}
	}
}

// R3: Data that is taken is new, with its spare room: neither the In nor what it is made of, nor another answer, changes with it.
func TestTakenIsNew(t *testing.T) {
	for _, k := range kinds()[:2] {
		for _, size := range []int{0, 1, 7, 100, 3000} {
			one, two := api.Entry{Index: 1, Term: 1, Data: data(size)}, api.Entry{Index: 2, Term: 1, Data: data(size + 1)}
			given := slices.Concat(k.told(one), k.told(two), k.told(one))
			was := slices.Clone(given)
			i := octets.NewIn(given)
			first := k.get(i)
			spoil(first.Data)
			second := k.get(i)
			if !alike(second, two) {
				t.Errorf("%s of %d bytes: the second one changed with the first one", k.name, size)
			}
			spoil(second.Data)
			if !bytes.Equal(given, was) {
				t.Errorf("%s of %d bytes: what was handed in changed with what was answered", k.name, size)
			}
			third := k.get(i)
			spoil(given)
			if !alike(third, one) || !i.Done() {
				t.Errorf("%s of %d bytes: the third one is %s", k.name, size, show(third))
			}
			if !bytes.Equal(first.Data, bytes.Repeat([]byte{0xee}, size)) {
				t.Errorf("%s of %d bytes: the first one changed with another one", k.name, size)
			}
		}
	}
}
