package octets_test

import (
	"bytes"
	"encoding/hex"
	"math"
	"math/rand"
	"slices"
	"strings"
	"testing"

	"decamp/api"
	"decamp/octets"
)

// raw are the bytes of a hex text with spaces in it.
func raw(t *testing.T, text string) []byte {
	t.Helper()
	b, err := hex.DecodeString(strings.ReplaceAll(text, " ", ""))
	if err != nil {
		t.Fatal(err)
	}
	return b
}

// ended is what End answers of an Out that isn't too long.
func ended(t *testing.T, o *octets.Out) []byte {
	t.Helper()
	b, e := o.End()
	if e != api.OK {
		t.Fatalf("End: %v", e)
	}
	return b
}

// filled is an Out of so many bytes.
func filled(n int) *octets.Out {
	o := new(octets.Out)
	for i := range n {
		o.Byte(byte(i))
	}
	return o
}

// isBad holds that all that is asked of an In, or taken of it, is as of a bad one, again and again.
func isBad(t *testing.T, i *octets.In) {
	t.Helper()
	for range 2 {
		if !i.Bad() || i.Done() || i.Left() != 0 {
			t.Errorf("Bad %v, Done %v, Left %d of a bad one", i.Bad(), i.Done(), i.Left())
		}
		takesZero(t, i)
	}
	i.Fail()
	if !i.Bad() || i.Done() || i.Left() != 0 {
		t.Errorf("Bad %v, Done %v, Left %d of a bad one, behind Fail", i.Bad(), i.Done(), i.Left())
	}
}

// takesZero takes one of each kind, all of which are to be zero.
func takesZero(t *testing.T, i *octets.In) {
	t.Helper()
	if v := i.Byte(); v != 0 {
		t.Errorf("Byte: %d", v)
	}
	if i.Flag() {
		t.Error("Flag: true")
	}
	for _, most := range []int{math.MinInt, -1, 0, 1, math.MaxInt} {
		if n := i.Count(most); n != 0 {
			t.Errorf("Count(%d): %d", most, n)
		}
		if s := i.Text(most); s != "" {
			t.Errorf("Text(%d): %q", most, s)
		}
		if b := i.Bytes(most); len(b) != 0 {
			t.Errorf("Bytes(%d): %x", most, b)
		}
	}
	if v := i.Num(); v != 0 {
		t.Errorf("Num: %d", v)
	}
}

// P3.1: each kind's bytes, at its edges too.
func TestPut(t *testing.T) {
	for _, c := range []struct {
		name string
		put  func(o *octets.Out)
		want string
	}{
		{"nothing", func(o *octets.Out) {}, ""},
		{"Byte(0)", func(o *octets.Out) { o.Byte(0) }, "00"},
		{"Byte(127)", func(o *octets.Out) { o.Byte(127) }, "7f"},
		{"Byte(255)", func(o *octets.Out) { o.Byte(255) }, "ff"},
		{"Flag(true)", func(o *octets.Out) { o.Flag(true) }, "01"},
		{"Flag(false)", func(o *octets.Out) { o.Flag(false) }, "00"},
		{"Count(0)", func(o *octets.Out) { o.Count(0) }, "00000000"},
		{"Count(1)", func(o *octets.Out) { o.Count(1) }, "00000001"},
		{"Count of unlike bytes", func(o *octets.Out) { o.Count(0x01020304) }, "01020304"},
		{"Count(2^31)", func(o *octets.Out) { o.Count(1 << 31) }, "80000000"},
		{"Count(2^32-1)", func(o *octets.Out) { o.Count(1<<32 - 1) }, "ffffffff"},
		{"Count(2^32)", func(o *octets.Out) { o.Count(1 << 32) }, "00000000"},
		{"Count(2^32+5)", func(o *octets.Out) { o.Count(1<<32 + 5) }, "00000005"},
		{"Count(MaxInt)", func(o *octets.Out) { o.Count(math.MaxInt) }, "ffffffff"},
		{"Count(-1)", func(o *octets.Out) { o.Count(-1) }, "ffffffff"},
		{"Count(-2^32+2)", func(o *octets.Out) { o.Count(-1<<32 + 2) }, "00000002"},
		{"Count(MinInt)", func(o *octets.Out) { o.Count(math.MinInt) }, "00000000"},
		{"Num(0)", func(o *octets.Out) { o.Num(0) }, "0000000000000000"},
		{"Num(1)", func(o *octets.Out) { o.Num(1) }, "0000000000000001"},
		{"Num(-1)", func(o *octets.Out) { o.Num(-1) }, "ffffffffffffffff"},
		{"Num(-2)", func(o *octets.Out) { o.Num(-2) }, "fffffffffffffffe"},
		{"Num of unlike bytes", func(o *octets.Out) { o.Num(0x0102030405060708) }, "0102030405060708"},
		{"Num of the least", func(o *octets.Out) { o.Num(math.MinInt64) }, "8000000000000000"},
		{"Num of the greatest", func(o *octets.Out) { o.Num(math.MaxInt64) }, "7fffffffffffffff"},
		{"Num(MaxRev)", func(o *octets.Out) { o.Num(api.MaxRev) }, "0000010000000000"},
		{"Text of nothing", func(o *octets.Out) { o.Text("") }, "00000000"},
		{"Text(ab)", func(o *octets.Out) { o.Text("ab") }, "00000002 6162"},
		{"Text of bytes that are no text", func(o *octets.Out) { o.Text("\xff\x00\xc3\n") }, "00000004 ff00c30a"},
		{"Text of more bytes than runes", func(o *octets.Out) { o.Text("é\u20ac") }, "00000005 c3a9e282ac"},
		{"Text of 256", func(o *octets.Out) { o.Text(strings.Repeat("x", 256)) }, "00000100" + strings.Repeat("78", 256)},
		{"Bytes of nil", func(o *octets.Out) { o.Bytes(nil) }, "00000000"},
		{"Bytes of nothing", func(o *octets.Out) { o.Bytes([]byte{}) }, "00000000"},
		{"Bytes of three", func(o *octets.Out) { o.Bytes([]byte{9, 0, 255}) }, "00000003 0900ff"},
		{"all of them", func(o *octets.Out) {
			o.Byte(7)
			o.Flag(true)
			o.Count(3)
			o.Num(-3)
			o.Text("t")
			o.Bytes([]byte("bb"))
			o.Flag(false)
		}, "07 01 00000003 fffffffffffffffd 00000001 74 00000002 6262 00"},
	} {
		var o octets.Out
		c.put(&o)
		if b, e := o.End(); e != api.OK || !bytes.Equal(b, raw(t, c.want)) {
			t.Errorf("%s: %x, %v, want %s", c.name, b, e, c.want)
		}
	}
}

// P3.1: End takes nothing away: it answers all so far again, and what is put behind it stands behind that.
func TestEndGoesOn(t *testing.T) {
	var o octets.Out
	o.Text("ab")
	for range 2 {
		if b := ended(t, &o); !bytes.Equal(b, raw(t, "00000002 6162")) {
			t.Errorf("End: %x", b)
		}
	}
	o.Byte(5)
	if b := ended(t, &o); !bytes.Equal(b, raw(t, "00000002 6162 05")) {
		t.Errorf("End behind one more: %x", b)
	}
}

// P3.1: MaxRecord bytes are answered, whatever the last ones are of; one more is too long, and stays so.
func TestEndOfMaxRecord(t *testing.T) {
	for _, c := range []struct {
		name string
		size int
		put  func(o *octets.Out)
	}{
		{"Byte", 1, func(o *octets.Out) { o.Byte(1) }},
		{"Flag", 1, func(o *octets.Out) { o.Flag(true) }},
		{"Count", 4, func(o *octets.Out) { o.Count(1) }},
		{"Num", 8, func(o *octets.Out) { o.Num(1) }},
		{"Text", 7, func(o *octets.Out) { o.Text("abc") }},
		{"Text of nothing", 4, func(o *octets.Out) { o.Text("") }},
		{"long Text", 5004, func(o *octets.Out) { o.Text(strings.Repeat("x", 5000)) }},
		{"Bytes", 7, func(o *octets.Out) { o.Bytes([]byte("abc")) }},
		{"Bytes of nothing", 4, func(o *octets.Out) { o.Bytes(nil) }},
		{"long Bytes", 5004, func(o *octets.Out) { o.Bytes(make([]byte, 5000)) }},
	} {
		o := filled(api.MaxRecord - c.size)
		c.put(o)
		b, e := o.End()
		if len(b) != api.MaxRecord || e != api.OK {
			t.Errorf("%s up to MaxRecord: %d bytes, %v", c.name, len(b), e)
		} else if !bytes.Equal(b[:api.MaxRecord-c.size], ended(t, filled(api.MaxRecord-c.size))) {
			t.Errorf("%s up to MaxRecord: the bytes ahead aren't as they were put", c.name)
		}
		for _, more := range []int{1, (c.size + 1) / 2, c.size} {
			o := filled(api.MaxRecord - c.size + more)
			c.put(o)
			staysLong(t, c.name, o)
		}
	}
}

// staysLong holds that an Out is too long, and is so whatever is put behind.
func staysLong(t *testing.T, name string, o *octets.Out) {
	t.Helper()
	for _, more := range []func(){func() {}, func() { o.Byte(1) }, func() { o.Flag(true) }, func() { o.Count(1) }, func() { o.Num(1) }, func() { o.Text("") }, func() { o.Text("a") }, func() { o.Bytes(nil) }, func() { o.Bytes([]byte("a")) }} {
		more()
		if b, e := o.End(); len(b) != 0 || e != api.ErrLong {
			t.Errorf("%s above MaxRecord: %d bytes, %v", name, len(b), e)
		}
	}
}

// P3.1: one Text or Bytes that are too long by themselves, alone or behind others.
func TestEndOfOneTooLong(t *testing.T) {
	for _, n := range []int{api.MaxRecord - 4, api.MaxRecord - 3, api.MaxRecord, api.MaxRecord + 1, 1 << 20} {
		var text, list octets.Out
		text.Text(strings.Repeat("x", n))
		list.Bytes(make([]byte, n))
		for _, o := range []*octets.Out{&text, &list} {
			if n > api.MaxRecord-4 {
				staysLong(t, "one", o)
			} else if b := ended(t, o); len(b) != api.MaxRecord {
				t.Errorf("one of %d: %d bytes", n, len(b))
			}
		}
	}
}

// P3.1: an Out that is too long keeps none of what is put, for End won't answer it.
func TestTooLongKeepsNothing(t *testing.T) {
	text := strings.Repeat("x", 5000)
	o := filled(api.MaxRecord + 1)
	if n := testing.AllocsPerRun(1, func() { o.Text(text) }); n != 0 {
		t.Errorf("a text is kept, by %v new pieces of memory", n)
	}
}

// P3.1, R1: a nil Out takes nothing, and its End is an error.
func TestNilOut(t *testing.T) {
	var o *octets.Out
	o.Byte(1)
	o.Flag(true)
	o.Count(1)
	o.Num(1)
	o.Text("a")
	o.Bytes([]byte("a"))
	if b, e := o.End(); len(b) != 0 || e != api.ErrArg {
		t.Errorf("End of nil: %x, %v", b, e)
	}
}

// R2: what one Out is given is not in another one.
func TestOutsAreApart(t *testing.T) {
	var a, b octets.Out
	a.Byte(1)
	b.Byte(2)
	a.Byte(3)
	if x, y := ended(t, &a), ended(t, &b); !bytes.Equal(x, []byte{1, 3}) || !bytes.Equal(y, []byte{2}) {
		t.Errorf("%x, %x", x, y)
	}
}

// R3: Bytes keeps nothing of what it is given, and leaves it, and its spare room, as it is.
func TestBytesKeepsNothing(t *testing.T) {
	for _, n := range []int{1, 3, 8, 100, 5000} {
		whole := bytes.Repeat([]byte{7}, 2*n)
		var o octets.Out
		o.Bytes(whole[:n])
		o.Byte(9)
		if !bytes.Equal(whole, bytes.Repeat([]byte{7}, 2*n)) {
			t.Errorf("%d: what was given is another one", n)
		}
		clear(whole)
		if b := ended(t, &o); !bytes.Equal(b[4:4+n], bytes.Repeat([]byte{7}, n)) {
			t.Errorf("%d: what was put changed with what was given", n)
		}
	}
}

// R3: what End answers is new, with its spare room, each time.
func TestEndIsNew(t *testing.T) {
	for _, n := range []int{0, 1, 5, 8, 13, 100, 1000, api.MaxRecord - 1} {
		o := filled(n)
		want := ended(t, filled(n))
		first, second := ended(t, o), ended(t, o)
		spoil(first)
		if !bytes.Equal(second, want) || !bytes.Equal(ended(t, o), want) {
			t.Errorf("%d: another answer changed with the first one", n)
		}
		o.Byte(3)
		spoil(second)
		if b := ended(t, o); !bytes.Equal(b, append(want, 3)) {
			t.Errorf("%d: what was put changed with what was answered", n)
		}
		if !bytes.Equal(first[:cap(first)], bytes.Repeat([]byte{0xee}, cap(first))) {
			t.Errorf("%d: an answer changed with what was put", n)
		}
	}
}

// spoil writes to all of b, and to its spare room.
func spoil(b []byte) {
	b = b[:cap(b)]
	for i := range b {
		b[i] = 0xee
	}
}

// P3.2: one thing taken of bytes: what it is, and how many are left behind it.
func TestTake(t *testing.T) {
	all := math.MaxInt
	for _, c := range []struct {
		name string
		from string
		take func(i *octets.In) any
		want any
		left int
	}{
		{"Byte", "00", func(i *octets.In) any { return i.Byte() }, byte(0), 0},
		{"Byte of more", "ff01", func(i *octets.In) any { return i.Byte() }, byte(255), 1},
		{"Flag of 0", "00", func(i *octets.In) any { return i.Flag() }, false, 0},
		{"Flag of 1", "0102", func(i *octets.In) any { return i.Flag() }, true, 1},
		{"Count of 0, most 0", "00000000", func(i *octets.In) any { return i.Count(0) }, 0, 0},
		{"Count of 0, any most", "00000000 07", func(i *octets.In) any { return i.Count(all) }, 0, 1},
		{"Count as many as most, and as left", "00000002 0708", func(i *octets.In) any { return i.Count(2) }, 2, 2},
		{"Count as many as most, below left", "00000001 0708", func(i *octets.In) any { return i.Count(1) }, 1, 2},
		{"Count below most, as many as left", "00000002 0708", func(i *octets.In) any { return i.Count(all) }, 2, 2},
		{"Count of 258", "00000102" + strings.Repeat("00", 258), func(i *octets.In) any { return i.Count(258) }, 258, 258},
		{"Count of 2^16", "00010000" + strings.Repeat("00", 1<<16), func(i *octets.In) any { return i.Count(1 << 16) }, 1 << 16, 1 << 16},
		{"Count of 2^24", "01000000" + strings.Repeat("00", 1<<24), func(i *octets.In) any { return i.Count(1 << 24) }, 1 << 24, 1 << 24},
		{"Num of 1", "0000000000000001", func(i *octets.In) any { return i.Num() }, int64(1), 0},
		{"Num of -1", "ffffffffffffffff 00", func(i *octets.In) any { return i.Num() }, int64(-1), 1},
		{"Num of unlike bytes", "0102030405060708", func(i *octets.In) any { return i.Num() }, int64(0x0102030405060708), 0},
		{"Num of the least", "8000000000000000", func(i *octets.In) any { return i.Num() }, int64(math.MinInt64), 0},
		{"Num of the greatest", "7fffffffffffffff", func(i *octets.In) any { return i.Num() }, int64(math.MaxInt64), 0},
		{"Text of nothing", "00000000", func(i *octets.In) any { return i.Text(0) }, "", 0},
		{"Text of as many as most", "00000002 6162 63", func(i *octets.In) any { return i.Text(2) }, "ab", 1},
		{"Text below most", "00000002 6162", func(i *octets.In) any { return i.Text(all) }, "ab", 0},
		{"Text of bytes that are no text", "00000003 ff00c3", func(i *octets.In) any { return i.Text(9) }, "\xff\x00\xc3", 0},
		{"Bytes of nothing", "00000000 01", func(i *octets.In) any { return string(i.Bytes(0)) }, "", 1},
		{"Bytes of as many as most", "00000002 6162 63", func(i *octets.In) any { return string(i.Bytes(2)) }, "ab", 1},
		{"Bytes below most", "00000003 00ff61", func(i *octets.In) any { return string(i.Bytes(all)) }, "\x00\xffa", 0},
	} {
		i := octets.NewIn(raw(t, c.from))
		if x := c.take(i); x != c.want {
			t.Errorf("%s: %v, want %v", c.name, x, c.want)
		}
		if i.Bad() || i.Left() != c.left || i.Done() != (c.left == 0) {
			t.Errorf("%s: Bad %v, Left %d, Done %v, want %d left", c.name, i.Bad(), i.Left(), i.Done(), c.left)
		}
	}
}

// P3.2: one thing that isn't there: it is zero, and so is all that is taken behind it.
func TestTakeWhatIsNotThere(t *testing.T) {
	all := math.MaxInt
	for _, c := range []struct {
		name string
		from string
		take func(i *octets.In) any
		zero any
	}{
		{"Byte of nothing", "", func(i *octets.In) any { return i.Byte() }, byte(0)},
		{"Flag of nothing", "", func(i *octets.In) any { return i.Flag() }, false},
		{"Flag of 2", "02 01", func(i *octets.In) any { return i.Flag() }, false},
		{"Flag of 129", "81 01", func(i *octets.In) any { return i.Flag() }, false},
		{"Flag of 255", "ff 01", func(i *octets.In) any { return i.Flag() }, false},
		{"Count of nothing", "", func(i *octets.In) any { return i.Count(all) }, 0},
		{"Count of three bytes", "000000", func(i *octets.In) any { return i.Count(all) }, 0},
		{"Count above most", "00000002 0102", func(i *octets.In) any { return i.Count(1) }, 0},
		{"Count above most of 0", "00000001 0102", func(i *octets.In) any { return i.Count(0) }, 0},
		{"Count above what is left", "00000003 0102", func(i *octets.In) any { return i.Count(all) }, 0},
		{"Count above what is left, as many as all", "00000006 0102", func(i *octets.In) any { return i.Count(6) }, 0},
		{"Count of one, none left", "00000001", func(i *octets.In) any { return i.Count(1) }, 0},
		{"Count of 2^31", "80000000 0102", func(i *octets.In) any { return i.Count(all) }, 0},
		{"Count of 2^32-1", "ffffffff 0102", func(i *octets.In) any { return i.Count(all) }, 0},
		{"Count of 0, most -1", "00000000 0102", func(i *octets.In) any { return i.Count(-1) }, 0},
		{"Count of 0, the least most", "00000000 0102", func(i *octets.In) any { return i.Count(math.MinInt) }, 0},
		{"Count of 2, most -1", "00000002 0102", func(i *octets.In) any { return i.Count(-1) }, 0},
		{"Num of nothing", "", func(i *octets.In) any { return i.Num() }, int64(0)},
		{"Num of seven bytes", "01020304050607", func(i *octets.In) any { return i.Num() }, int64(0)},
		{"Text of nothing", "", func(i *octets.In) any { return i.Text(all) }, ""},
		{"Text of three bytes", "000000", func(i *octets.In) any { return i.Text(all) }, ""},
		{"Text above most", "00000002 6162", func(i *octets.In) any { return i.Text(1) }, ""},
		{"Text above what is left", "00000003 6162", func(i *octets.In) any { return i.Text(all) }, ""},
		{"Text of 0, most -1", "00000000 6162", func(i *octets.In) any { return i.Text(-1) }, ""},
		{"Text of 2^32-1", "ffffffff 6162", func(i *octets.In) any { return i.Text(all) }, ""},
		{"Bytes of nothing", "", func(i *octets.In) any { return len(i.Bytes(all)) }, 0},
		{"Bytes of three bytes", "000000", func(i *octets.In) any { return len(i.Bytes(all)) }, 0},
		{"Bytes above most", "00000002 6162", func(i *octets.In) any { return len(i.Bytes(1)) }, 0},
		{"Bytes above what is left", "00000003 6162", func(i *octets.In) any { return len(i.Bytes(all)) }, 0},
		{"Bytes of 0, most -1", "00000000 6162", func(i *octets.In) any { return len(i.Bytes(-1)) }, 0},
		{"Bytes of 2^32-1", "ffffffff 6162", func(i *octets.In) any { return len(i.Bytes(all)) }, 0},
	} {
		i := octets.NewIn(raw(t, c.from))
		if x := c.take(i); x != c.zero {
			t.Errorf("%s: %v, want zero", c.name, x)
		}
		isBad(t, i)
		if t.Failed() {
			t.Fatal(c.name)
		}
	}
}

// P3.2: of all bytes just two are Flags.
func TestFlagOfEachByte(t *testing.T) {
	for v := range 256 {
		i := octets.NewIn([]byte{byte(v)})
		if f := i.Flag(); f != (v == 1) || i.Bad() != (v > 1) || i.Done() != (v < 2) {
			t.Errorf("Flag of %d: %v, Bad %v, Done %v", v, f, i.Bad(), i.Done())
		}
	}
}

// P3.2: one behind the other, from the first byte on; Left falls with each, and Done is told at the end alone.
func TestTakeInOrder(t *testing.T) {
	i := octets.NewIn(raw(t, "07 01 00000003 fffffffffffffffd 00000001 74 00000002 6262 00"))
	left := func(want int) {
		t.Helper()
		if i.Left() != want || i.Bad() || i.Done() != (want == 0) {
			t.Errorf("Left %d, Bad %v, Done %v, want %d left", i.Left(), i.Bad(), i.Done(), want)
		}
	}
	left(26)
	if v := i.Byte(); v != 7 {
		t.Error(v)
	}
	left(25)
	if !i.Flag() {
		t.Error("Flag")
	}
	left(24)
	if n := i.Count(3); n != 3 {
		t.Error(n)
	}
	left(20)
	if v := i.Num(); v != -3 {
		t.Error(v)
	}
	left(12)
	if s := i.Text(1); s != "t" {
		t.Error(s)
	}
	left(7)
	if b := i.Bytes(2); string(b) != "bb" {
		t.Error(b)
	}
	left(1)
	if i.Flag() {
		t.Error("last Flag")
	}
	left(0)
	if v := i.Byte(); v != 0 {
		t.Error(v)
	}
	isBad(t, i)
}

// P3.2: behind Fail it is bad, with bytes left and without.
func TestFail(t *testing.T) {
	for _, from := range []string{"", "01", "00000001 61", strings.Repeat("01", 40)} {
		i := octets.NewIn(raw(t, from))
		i.Fail()
		isBad(t, i)
	}
	i := octets.NewIn([]byte{1, 2})
	i.Byte()
	i.Fail()
	isBad(t, i)
}

// P3.2: an In of no bytes isn't bad, and is done.
func TestInOfNothing(t *testing.T) {
	for _, b := range [][]byte{nil, {}} {
		i := octets.NewIn(b)
		if i == nil || i.Bad() || !i.Done() || i.Left() != 0 {
			t.Errorf("In of nothing: Bad %v, Done %v, Left %d", i.Bad(), i.Done(), i.Left())
		}
		takesZero(t, i)
		isBad(t, i)
	}
}

// P3.2, R1: of a nil In all answer zero, Bad and Done too.
func TestNilIn(t *testing.T) {
	var i *octets.In
	for range 2 {
		takesZero(t, i)
		if i.Left() != 0 || i.Bad() || i.Done() {
			t.Errorf("Left %d, Bad %v, Done %v of nil", i.Left(), i.Bad(), i.Done())
		}
		i.Fail()
	}
}

// R3: NewIn keeps nothing of what it is given; what is taken leaves it, and its spare room, as it is.
func TestInKeepsNothing(t *testing.T) {
	var o octets.Out
	o.Bytes([]byte("one"))
	o.Text("two")
	o.Num(3)
	want := ended(t, &o)
	given := append(slices.Clone(want), "room"...)[:len(want)]
	i := octets.NewIn(given)
	if string(i.Bytes(9)) != "one" {
		t.Error("ahead of the change")
	}
	if !bytes.Equal(given[:len(want)+4], append(slices.Clone(want), "room"...)) {
		t.Error("what was given is another one")
	}
	spoil(given)
	if s := i.Text(9); s != "two" {
		t.Errorf("Text behind the change: %q", s)
	}
	if v := i.Num(); v != 3 || !i.Done() {
		t.Errorf("Num behind the change: %d", v)
	}
}

// R3: what Bytes answers is new, with its spare room: what is behind it stays as it is, and so do other answers.
func TestTakenIsNew(t *testing.T) {
	for _, n := range []int{0, 1, 3, 8, 17, 100, 1000} {
		one, two := bytes.Repeat([]byte{1}, n), bytes.Repeat([]byte{2}, n)
		var o octets.Out
		o.Bytes(one)
		o.Bytes(two)
		o.Text(string(one))
		given := ended(t, &o)
		i := octets.NewIn(given)
		first := i.Bytes(n)
		spoil(first)
		second := i.Bytes(n)
		if !bytes.Equal(second, two) {
			t.Errorf("%d: the second one changed with the first one's answer", n)
		}
		spoil(second)
		if s := i.Text(n); s != string(one) || !i.Done() {
			t.Errorf("%d: the text changed with the second one's answer", n)
		}
		if !bytes.Equal(given, ended(t, &o)) {
			t.Errorf("%d: what was given changed with what was answered", n)
		}
	}
}

// thing is something that is put and taken, of one of the six kinds.
type thing struct {
	kind byte
	n    int64
	text string
}

// put puts x.
func (x thing) put(o *octets.Out) {
	switch x.kind {
	case 0:
		o.Byte(byte(x.n))
	case 1:
		o.Flag(x.n == 1)
	case 2:
		o.Count(int(x.n))
	case 3:
		o.Num(x.n)
	case 4:
		o.Text(x.text)
	case 5:
		o.Bytes([]byte(x.text))
	}
}

// taken takes a thing of that kind.
func taken(i *octets.In, kind byte) thing {
	x := thing{kind: kind}
	switch kind {
	case 0:
		x.n = int64(i.Byte())
	case 1:
		if i.Flag() {
			x.n = 1
		}
	case 2:
		x.n = int64(i.Count(math.MaxInt))
	case 3:
		x.n = i.Num()
	case 4:
		x.text = i.Text(math.MaxInt)
	case 5:
		x.text = string(i.Bytes(math.MaxInt))
	}
	return x
}

// some are a few things of all kinds; each Count is one that bytes behind it bear out.
func some(r *rand.Rand) []thing {
	l := []thing{}
	for range r.Intn(7) {
		x := thing{kind: byte(r.Intn(6))}
		switch x.kind {
		case 0:
			x.n = r.Int63n(256)
		case 1:
			x.n = r.Int63n(2)
		case 2:
			x.n = r.Int63n(9)
		case 3:
			x.n = int64(r.Uint64()) >> r.Intn(64)
		default:
			b := make([]byte, r.Intn(12))
			r.Read(b)
			x.text = string(b)
		}
		l = append(l, x)
		if x.kind == 2 {
			l = append(l, thing{kind: 3, n: int64(r.Uint64())})
		}
	}
	return l
}

// outOf puts them all.
func outOf(t *testing.T, l []thing) []byte {
	t.Helper()
	var o octets.Out
	for _, x := range l {
		x.put(&o)
	}
	return ended(t, &o)
}

// inOf takes things of the kinds of l, and tells whether these were all there, and nothing else.
func inOf(b []byte, l []thing) ([]thing, bool) {
	i := octets.NewIn(b)
	got := []thing{}
	for _, x := range l {
		got = append(got, taken(i, x.kind))
	}
	return got, i.Done()
}

// P3.3: what was put is taken as it was.
func TestThereAndBack(t *testing.T) {
	r := rand.New(rand.NewSource(3))
	for range 3000 {
		l := some(r)
		// Behind the last Count, which may be up to 8, stand 8 bytes at least.
		b := outOf(t, l)
		if got, ok := inOf(b, l); !ok || !slices.Equal(got, l) {
			t.Fatalf("%v was put, %v taken, %v", l, got, ok)
		}
	}
}

// P3.3: no other bytes are taken so: what is cut off anywhere isn't there, what is longer isn't done, and what is changed is something else, or bad.
func TestNoOtherBytes(t *testing.T) {
	r := rand.New(rand.NewSource(33))
	for range 600 {
		l := some(r)
		b := outOf(t, l)
		for n := range b {
			if got, ok := inOf(b[:n], l); ok {
				t.Fatalf("%v, cut off at %d of %d: %v is taken", l, n, len(b), got)
			}
		}
		if _, ok := inOf(append(slices.Clone(b), 0), l); ok {
			t.Fatalf("%v is taken with a byte behind it", l)
		}
		for at := range b {
			other := slices.Clone(b)
			other[at] ^= byte(1 + r.Intn(255))
			got, ok := inOf(other, l)
			if !ok {
				continue
			}
			if slices.Equal(got, l) {
				t.Fatalf("%v is taken of %x and of %x", l, b, other)
			}
			if back := outOf(t, got); !bytes.Equal(back, other) {
				t.Fatalf("%v is taken of %x, and put as %x", got, other, back)
			}
		}
	}
}

// P3.2, P3.3: a Text and Bytes that are cut off anywhere are bad; what was taken ahead of them stays.
func TestCutOffAnywhere(t *testing.T) {
	whole := raw(t, "05 00000003 616263 00000002 6465 fffffffffffffffe")
	for n := range whole {
		i := octets.NewIn(whole[:n])
		v, s, b, m := i.Byte(), i.Text(3), i.Bytes(2), i.Num()
		if (v == 5) != (n >= 1) || (s == "abc") != (n >= 8) || (s == "") != (n < 8) || (len(b) == 2) != (n >= 14) || (len(b) == 0) != (n < 14) || m != 0 {
			t.Errorf("cut off at %d: %d, %q, %x, %d", n, v, s, b, m)
		}
		isBad(t, i)
	}
}

// P3.3: as long as an Out may be, it is taken as it was.
func TestThereAndBackOfMaxRecord(t *testing.T) {
	text := strings.Repeat("0123456789", api.MaxRecord/10)[:api.MaxRecord-5]
	var o octets.Out
	o.Text(text)
	o.Flag(true)
	i := octets.NewIn(ended(t, &o))
	if i.Left() != api.MaxRecord {
		t.Errorf("Left: %d", i.Left())
	}
	if i.Text(len(text)) != text || !i.Flag() || !i.Done() {
		t.Error("not as it was")
	}
}
