package rmsg_test

import (
	"bytes"
	"encoding/binary"
	"encoding/hex"
	"fmt"
	"math/rand"
	"slices"
	"strings"
	"testing"

	"decamp/api"
	"decamp/octets"
	"decamp/rmsg"
)

// P11.1: the bytes of one of each Kind, written out.
func TestBytesWrittenOut(t *testing.T) {
	none := "0000000000000000"
	for _, c := range []struct {
		m    rmsg.Msg
		want []string
	}{
		{rmsg.Msg{Kind: 1, From: 0, To: 1, Term: 5, Index: 258, LogTerm: 4},
			[]string{"01", "00", "01", "0000000000000005", "0000000000000102", "0000000000000004", none, none, "00", "00000000"}},
		{rmsg.Msg{Kind: 2, From: 1, To: 2, Term: 5, Ok: true},
			[]string{"02", "01", "02", "0000000000000005", none, none, none, none, "01", "00000000"}},
		{rmsg.Msg{Kind: 3, From: 2, To: 0, Term: api.MaxRev, Index: 7, LogTerm: 6},
			[]string{"03", "02", "00", "0000010000000000", "0000000000000007", "0000000000000006", none, none, "00", "00000000"}},
		{rmsg.Msg{Kind: 4, From: 0, To: 2, Term: 1},
			[]string{"04", "00", "02", "0000000000000001", none, none, none, none, "00", "00000000"}},
		{rmsg.Msg{Kind: 5, From: 0, To: 1, Term: 9, Index: 7, LogTerm: 6, Commit: 5, Ctx: 4},
			[]string{"05", "00", "01", "0000000000000009", "0000000000000007", "0000000000000006", "0000000000000005", "0000000000000004", "00", "00000000"}},
		{rmsg.Msg{Kind: 5, From: 1, To: 0, Term: 9, Index: 7, LogTerm: 6, Commit: 5, Entries: []api.Entry{{Index: 8, Term: 6, Data: []byte("ab")}, {Index: 9, Term: 9}}},
			[]string{"05", "01", "00", "0000000000000009", "0000000000000007", "0000000000000006", "0000000000000005", none, "00", "00000002",
				"0000000000000008", "0000000000000006", "00000002", "6162", "0000000000000009", "0000000000000009", "00000000"}},
		{rmsg.Msg{Kind: 6, From: 2, To: 1, Term: 3, Index: 2, Ctx: 1, Ok: true},
			[]string{"06", "02", "01", "0000000000000003", "0000000000000002", none, none, "0000000000000001", "01", "00000000"}},
		{rmsg.Msg{Kind: 7, From: 2, To: 1, Term: 3, Snap: api.Snap{Index: 4, Term: 2, Data: []byte("AB")}},
			[]string{"07", "02", "01", "0000000000000003", none, none, none, none, "00", "00000000", "0000000000000004", "0000000000000002", "00000002", "4142"}},
	} {
		want, err := hex.DecodeString(strings.Join(c.want, ""))
		if err != nil {
			t.Fatal(err)
		}
		if b := put(t, c.m); !bytes.Equal(b, want) {
			t.Errorf("%s is put as %x", show(c.m), b)
		}
	}
}

// P11.1: what is right is put as the chapter says it, between other things, and of what isn't a byte 0 alone.
func TestPut(t *testing.T) {
	for _, m := range rights() {
		var o octets.Out
		o.Byte(9)
		rmsg.Put(&o, m)
		o.Byte(8)
		if b := ended(t, &o); !bytes.Equal(b, slices.Concat([]byte{9}, told(m), []byte{8})) {
			t.Errorf("%s is put as %.100x", show(m), b)
		}
	}
	for _, m := range wrongs() {
		var o octets.Out
		o.Byte(9)
		rmsg.Put(&o, m)
		o.Byte(8)
		if b := ended(t, &o); !bytes.Equal(b, []byte{9, 0, 8}) {
			t.Errorf("%s, which isn't right, is put as %.100x", show(m), b)
		}
	}
}

// R1: a nil Out takes nothing.
func TestPutIntoNil(t *testing.T) {
	var none *octets.Out
	for _, m := range append(rights(), wrongs()...) {
		rmsg.Put(none, m)
	}
}

// P11.1: what makes an Out too long is found out at its end, as layer 3 says.
func TestPutOfTooMuch(t *testing.T) {
	var o octets.Out
	rmsg.Put(&o, most(7))
	rmsg.Put(&o, most(5))
	if b, e := o.End(); e != api.ErrLong || len(b) > 0 {
		t.Errorf("End of too much: %d bytes, %v", len(b), e)
	}
}

// P11.1: what was put of a right one is taken as it was, and what is behind it is left.
func TestThereAndBack(t *testing.T) {
	for _, m := range rights() {
		for _, behind := range []string{"", "\x00", "\x01", "\xff\xff\xff\xff\xff\xff\xff\xff\xff"} {
			i := octets.NewIn(append(put(t, m), behind...))
			got := rmsg.Get(i)
			if !alike(got, m) || !rmsg.Right(got) || i.Bad() || i.Left() != len(behind) || i.Done() != (behind == "") {
				t.Errorf("%s is taken as %s, Bad %v, Left %d of %d", show(m), show(got), i.Bad(), i.Left(), len(behind))
			}
		}
	}
}

// P11.1: several that stand one behind the other are taken one by one.
func TestManyThereAndBack(t *testing.T) {
	var o octets.Out
	l := []rmsg.Msg{}
	for kind := 1; kind <= 7; kind++ {
		l = append(l, some(kind), least(kind))
	}
	for _, m := range l {
		rmsg.Put(&o, m)
	}
	i := octets.NewIn(ended(t, &o))
	for _, m := range l {
		if got := rmsg.Get(i); !alike(got, m) {
			t.Errorf("%s is taken as %s", show(m), show(got))
		}
	}
	if !i.Done() {
		t.Errorf("Left is %d, Bad %v", i.Left(), i.Bad())
	}
}

// P11.1: what was put of one that isn't right isn't taken, whatever is behind it.
func TestThereAndBackOfWrong(t *testing.T) {
	for _, m := range wrongs() {
		b := put(t, m)
		for _, behind := range [][]byte{nil, {1}, make([]byte, 200), told(some(3)), told(some(3))[1:]} {
			i := octets.NewIn(append(slices.Clone(b), behind...))
			isBad(t, show(m), i, rmsg.Get(i))
		}
	}
}

// P11.1: bytes that would be a message that isn't right make the In bad, and the answer is zero.
func TestGetOfWrong(t *testing.T) {
	for _, m := range wrongs() {
		// Of nodes and kinds that no byte can tell there are no such bytes.
		if m.Kind != int(byte(m.Kind)) || m.From != int(byte(m.From)) || m.To != int(byte(m.To)) {
			continue
		}
		// Only of a Whole there are bytes of a snap.
		if m.Kind != 7 && !alike(rmsg.Msg{Snap: m.Snap}, rmsg.Msg{}) {
			continue
		}
		for _, behind := range []int{0, 1, 100} {
			i := octets.NewIn(append(told(m), make([]byte, behind)...))
			isBad(t, show(m), i, rmsg.Get(i))
		}
	}
}

// P11.1: a byte 0, none, and one that is no Kind.
func TestGetOfNoKind(t *testing.T) {
	for _, b := range [][]byte{nil, {}, {0}, {0, 0}, {8}, {255}, make([]byte, 48), make([]byte, 500)} {
		i := octets.NewIn(b)
		isBad(t, fmt.Sprintf("%.20x", b), i, rmsg.Get(i))
	}
	for kind := range 256 {
		b := told(some(5))
		b[0] = byte(kind)
		i := octets.NewIn(b)
		if got := rmsg.Get(i); kind == 5 {
			if !alike(got, some(5)) || !i.Done() {
				t.Errorf("an App isn't taken: %s", show(got))
			}
		} else {
			isBad(t, fmt.Sprint("kind ", kind), i, got)
		}
	}
}

// P11.1: a Flag that is neither 0 nor 1 is none.
func TestGetOfFlags(t *testing.T) {
	for flag := range 256 {
		b := told(some(6))
		b[43] = byte(flag)
		i := octets.NewIn(b)
		got := rmsg.Get(i)
		if flag > 1 {
			isBad(t, fmt.Sprint("flag ", flag), i, got)
		} else if !i.Done() || got.Ok != (flag == 1) {
			t.Errorf("flag %d: %s, Done %v", flag, show(got), i.Done())
		}
	}
}

// P11.1: what is cut off anywhere isn't taken, not even where what is there would be right.
func TestCutOff(t *testing.T) {
	for _, m := range rights() {
		b := told(m)
		step := 1 + len(b)/300
		for n := 0; n < len(b); n += step {
			i := octets.NewIn(b[:n])
			isBad(t, fmt.Sprintf("%d bytes of %s", n, show(m)), i, rmsg.Get(i))
		}
		i := octets.NewIn(b[:len(b)-1])
		isBad(t, "all but one byte of "+show(m), i, rmsg.Get(i))
	}
}

// P11.1: what is there may be right though some of it isn't: a message whose entries, or whose snap, are missing.
func TestCutOffBehindTheHead(t *testing.T) {
	for _, m := range []rmsg.Msg{some(5), some(7)} {
		for n := 44; n < 48+20; n++ {
			i := octets.NewIn(told(m)[:n])
			isBad(t, fmt.Sprintf("%d bytes of %s", n, show(m)), i, rmsg.Get(i))
		}
	}
}

// P11.1: counts of entries that lie: of more than there are, or than there may be.
func TestGetOfCounts(t *testing.T) {
	for _, c := range []struct {
		count uint32
		there int
		left  int
	}{
		{0, 0, 0}, {0, 1, 23}, {1, 1, 0}, {1, 2, 23}, {4, 4, 0}, {4, 5, 23}, {3, 4, 23},
		{1, 0, -1}, {2, 1, -1}, {3, 2, -1}, {4, 3, -1}, {4, 0, -1}, {5, 5, -1}, {5, 4, -1}, {6, 6, -1}, {60, 60, -1}, {255, 5, -1},
		{256, 300, -1}, {1 << 16, 5, -1}, {1 << 24, 5, -1}, {1<<24 + 1, 5, -1}, {1 << 31, 5, -1}, {1<<32 - 1, 5, -1},
	} {
		m := rmsg.Msg{Kind: 5, From: 0, To: 2, Term: 3, Index: 5, LogTerm: 3}
		b := binary.BigEndian.AppendUint32(told(m)[:44], c.count)
		l := run(5, 3, c.there)
		for k := range l {
			l[k].Data = []byte("abc")
			b = append(b, toldEntry(l[k])...)
		}
		i := octets.NewIn(b)
		got := rmsg.Get(i)
		if c.left < 0 {
			isBad(t, fmt.Sprintf("%d entries of %d", c.count, c.there), i, got)
			continue
		}
		m.Entries = l[:c.count]
		if !alike(got, m) || i.Bad() || i.Left() != c.left {
			t.Errorf("%d entries of %d: %s, Bad %v, Left %d", c.count, c.there, show(got), i.Bad(), i.Left())
		}
	}
}

// P11.1: whichever byte is turned into another one, what is taken is what would be put so, or nothing is.
func TestTurned(t *testing.T) {
	for kind := 1; kind <= 7; kind++ {
		for _, m := range []rmsg.Msg{least(kind), some(kind)} {
			b := told(m)
			for at := range b {
				for v := range 256 {
					turned := slices.Clone(b)
					turned[at] = byte(v)
					holdTaken(t, turned, byte(v) == b[at])
				}
			}
		}
	}
}

// holdTaken holds that what is taken of b is what would be put as the bytes that were taken; or that nothing is, and the In is bad.
func holdTaken(t *testing.T, b []byte, must bool) {
	t.Helper()
	i := octets.NewIn(b)
	got := rmsg.Get(i)
	if i.Bad() {
		isBad(t, fmt.Sprintf("%.100x", b), i, got)
		if must {
			t.Errorf("a right one isn't taken: %.100x", b)
		}
		return
	}
	taken := b[:len(b)-i.Left()]
	if !rmsg.Right(got) || !bytes.Equal(told(got), taken) || !bytes.Equal(put(t, got), taken) {
		t.Fatalf("%.100x is taken as %s", b, show(got))
	}
}

// P11.1: random bytes, and ones that were pieced together, are taken only as what would be put so.
func TestTakenOfRandom(t *testing.T) {
	r := rand.New(rand.NewSource(7))
	l := slices.DeleteFunc(rights(), func(m rmsg.Msg) bool { return len(told(m)) > 500 })
	for range 100000 {
		b := told(l[r.Intn(len(l))])
		for range r.Intn(4) {
			at := r.Intn(len(b))
			switch r.Intn(3) {
			case 0:
				b[at] = byte(r.Intn(9))
			case 1:
				b = slices.Delete(b, at, min(at+r.Intn(9), len(b)))
			case 2:
				b = slices.Insert(b, at, make([]byte, r.Intn(9))...)
			}
			if len(b) == 0 {
				break
			}
		}
		holdTaken(t, b, false)
	}
}

// P11.1: of an In that is bad already nothing is taken.
func TestGetOfBad(t *testing.T) {
	i := octets.NewIn(told(some(5)))
	i.Fail()
	isBad(t, "what is bad", i, rmsg.Get(i))
	isBad(t, "what is bad, again", i, rmsg.Get(i))
	i = octets.NewIn(append([]byte{7}, told(some(5))...))
	i.Flag()
	isBad(t, "what was taken wrongly", i, rmsg.Get(i))
}

// R1: of a nil In there is nothing.
func TestGetOfNil(t *testing.T) {
	var none *octets.In
	if got := rmsg.Get(none); !alike(got, rmsg.Msg{}) {
		t.Errorf("a nil In has %s", show(got))
	}
}

// R3: what Get answers is the caller's own, whatever becomes of the bytes, and of what was taken of them before and behind.
func TestTakenIsOwn(t *testing.T) {
	for _, m := range []rmsg.Msg{some(5), most(5), some(7), most(7)} {
		b := told(m)
		was := slices.Clone(b)
		i, again := octets.NewIn(b), octets.NewIn(b)
		got, other := rmsg.Get(i), rmsg.Get(again)
		if !bytes.Equal(b, was) {
			t.Fatalf("the bytes of %s aren't as they were", show(m))
		}
		for k := range b {
			b[k] = 0xee
		}
		if !alike(got, m) {
			t.Fatalf("what was taken isn't its own: %s", show(got))
		}
		spoil(&got)
		if !alike(other, m) {
			t.Fatalf("what was taken twice is shared: %s", show(other))
		}
	}
}

// R3: no two lists of one answer share memory, spare room neither.
func TestTakenSharesNothing(t *testing.T) {
	m := some(5)
	got := rmsg.Get(octets.NewIn(told(m)))
	for k := range got.Entries {
		d := got.Entries[k].Data
		d = d[:cap(d)]
		for n := range d {
			d[n] = 0xee
		}
		for other := range got.Entries {
			if other > k && !bytes.Equal(got.Entries[other].Data, m.Entries[other].Data) {
				t.Fatalf("entry %d shares with entry %d", k, other)
			}
		}
	}
}

// R3: an Out keeps nothing of what was put into it.
func TestPutKeepsNothing(t *testing.T) {
	for _, m := range []rmsg.Msg{some(5), most(5), some(7), most(7)} {
		handed := own(m)
		var o octets.Out
		rmsg.Put(&o, handed)
		spoil(&handed)
		if b := ended(t, &o); !bytes.Equal(b, told(m)) {
			t.Errorf("%s isn't as it was put", show(m))
		}
	}
}

// spoil writes over all that a message's lists hold, their spare room too.
func spoil(m *rmsg.Msg) {
	datas := [][]byte{m.Snap.Data}
	for _, e := range m.Entries {
		datas = append(datas, e.Data)
	}
	for _, d := range datas {
		d = d[:cap(d)]
		for k := range d {
			d[k] = 0xdd
		}
	}
	l := m.Entries[:cap(m.Entries)]
	for k := range l {
		l[k] = api.Entry{Index: -9}
	}
}
