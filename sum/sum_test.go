package sum_test

import (
	"bytes"
	"hash/crc32"
	"math"
	"math/rand"
	"slices"
	"strings"
	"testing"

	"decamp/api"
	"decamp/sum"
)

// plain is P4.1 word by word, bit by bit, from a sum on: nothing of the package's own code is in it.
func plain(from uint32, b []byte) uint32 {
	rest := from ^ 0xffffffff
	for _, v := range b {
		for bit := range 8 {
			out := rest&1 != uint32(v)>>bit&1
			rest /= 2
			if out {
				rest ^= 0xedb88320
			}
		}
	}
	return rest ^ 0xffffffff
}

// starts are the sums from which More goes on in the tests: the ends, each single bit, and some others.
func starts() []uint32 {
	l := []uint32{0, 1, 0x7fffffff, 0xfffffffe, math.MaxUint32, 0xcbf43926, 0xedb88320, 0x04c11db7, 0x2144df1c, 0x12345678}
	for bit := range 32 {
		l = append(l, 1<<bit)
	}
	return l
}

// texts are the texts of the tests that ask for all their cuts: short, and of unlike kinds.
func texts() [][]byte {
	all := make([]byte, 256)
	for i := range all {
		all[i] = byte(i)
	}
	some := make([]byte, 150)
	rand.New(rand.NewSource(4)).Read(some)
	return [][]byte{
		nil, {}, {0}, {255}, []byte("a"), []byte("ab"), []byte("123456789"),
		make([]byte, 40), bytes.Repeat([]byte{255}, 40), all, some,
	}
}

// random is a text of n bytes.
func random(r *rand.Rand, n int) []byte {
	b := make([]byte, n)
	r.Read(b)
	return b
}

// P4.1: the chapter's examples, and sums that are known elsewhere.
func TestKnown(t *testing.T) {
	for _, c := range []struct {
		text string
		want uint32
	}{
		{"123456789", 0xcbf43926},
		{"", 0},
		{"\x00", 0xd202ef8d},
		{"\x01", 0xa505df1b},
		{"\x80", 0x3fba6cad},
		{"\xff", 0xff000000},
		{"a", 0xe8b7be43},
		{"abc", 0x352441c2},
		{"cba", 0xd8aef480},
		{"The quick brown fox jumps over the lazy dog", 0x414fa339},
		{"\x00\x00\x00\x00", 0x2144df1c},
		{"\xff\xff\xff\xff", 0xffffffff},
		{strings.Repeat("\x00", 32), 0x190a55ad},
		{strings.Repeat("\xff", 32), 0xff6cab0b},
	} {
		if got := sum.Of([]byte(c.text)); got != c.want {
			t.Errorf("Of(%q): %08x, want %08x", c.text, got, c.want)
		}
		if got := sum.More(0, []byte(c.text)); got != c.want {
			t.Errorf("More(0, %q): %08x, want %08x", c.text, got, c.want)
		}
	}
}

// P4.1: nothing, nil or not, has the sum 0, and adds nothing to any other sum.
func TestNothing(t *testing.T) {
	for _, b := range [][]byte{nil, {}, make([]byte, 0, 9)} {
		if got := sum.Of(b); got != 0 {
			t.Errorf("Of nothing: %08x", got)
		}
		for _, s := range starts() {
			if got := sum.More(s, b); got != s {
				t.Errorf("More(%08x) of nothing: %08x", s, got)
			}
		}
	}
}

// P4.1: one byte of each value, alone, and from each of the starts on; none has another one's sum.
func TestEachByte(t *testing.T) {
	seen := map[uint32]int{}
	for v := range 256 {
		b := []byte{byte(v)}
		got := sum.Of(b)
		if want := plain(0, b); got != want || got != crc32.ChecksumIEEE(b) {
			t.Errorf("Of(%02x): %08x, want %08x", v, got, want)
		}
		if w, ok := seen[got]; ok {
			t.Errorf("%02x and %02x have the same sum", v, w)
		}
		seen[got] = v
		for _, s := range starts() {
			if got, want := sum.More(s, b), plain(s, b); got != want {
				t.Errorf("More(%08x, %02x): %08x, want %08x", s, v, got, want)
			}
		}
	}
}

// P4.1: every two bytes.
func TestEachTwoBytes(t *testing.T) {
	for v := range 1 << 16 {
		b := []byte{byte(v >> 8), byte(v)}
		if got, want := sum.Of(b), crc32.ChecksumIEEE(b); got != want {
			t.Fatalf("Of(%x): %08x, want %08x", b, got, want)
		}
	}
}

// P4.1: texts of many lengths, the limits' and those beside them.
func TestLengths(t *testing.T) {
	r := rand.New(rand.NewSource(41))
	lengths := []int{api.MaxData, api.MaxWhole, api.MaxRecord - 1, api.MaxRecord, api.MaxRecord + 1, api.MaxRoom - 1, api.MaxRoom, api.MaxRoom + 1, 3*api.MaxRoom + 7}
	for n := range 300 {
		lengths = append(lengths, n)
	}
	for _, n := range lengths {
		for _, b := range [][]byte{random(r, n), make([]byte, n), bytes.Repeat([]byte{255}, n)} {
			if got, want := sum.Of(b), crc32.ChecksumIEEE(b); got != want {
				t.Fatalf("Of %d bytes: %08x, want %08x", n, got, want)
			}
		}
	}
}

// P4.1: More from each of the starts on, with each of the texts.
func TestMoreFrom(t *testing.T) {
	for _, s := range starts() {
		for _, b := range texts() {
			got := sum.More(s, b)
			if want := plain(s, b); got != want || got != crc32.Update(s, crc32.IEEETable, b) {
				t.Errorf("More(%08x, %x): %08x, want %08x", s, b, got, want)
			}
		}
	}
}

// P4.1: sum turned by ffffffff is where More begins, so that from 0 on it is Of, and from ffffffff on zeros change nothing.
func TestMoreFromEnds(t *testing.T) {
	for _, b := range texts() {
		if got, want := sum.More(0, b), sum.Of(b); got != want {
			t.Errorf("More(0, %x): %08x, Of: %08x", b, got, want)
		}
	}
	for _, n := range []int{1, 2, 3, 4, 5, 64, api.MaxRecord} {
		if got := sum.More(math.MaxUint32, make([]byte, n)); got != math.MaxUint32 {
			t.Errorf("More(ffffffff) of %d zeros: %08x", n, got)
		}
	}
	for _, c := range []struct {
		from uint32
		text string
		want uint32
	}{
		{0xffffffff, "\x01", 0x88f8cf69},
		{0xffffffff, "123456789", 0xd202d277},
		{0xcbf43926, "123456789", 0x4b837ae4},
		{0x00000001, "a", 0x9fb08ed5},
	} {
		if got := sum.More(c.from, []byte(c.text)); got != c.want {
			t.Errorf("More(%08x, %q): %08x, want %08x", c.from, c.text, got, c.want)
		}
	}
}

// P4.1: from other sums on, the same text comes to other sums.
func TestOtherStarts(t *testing.T) {
	for _, b := range texts() {
		seen := map[uint32]uint32{}
		for _, s := range starts() {
			got := sum.More(s, b)
			if w, ok := seen[got]; ok && w != s {
				t.Errorf("More(%08x) and More(%08x) of %x are the same", s, w, b)
			}
			seen[got] = s
		}
	}
}

// P4.2: two parts, cut anywhere, ahead of the first byte and behind the last one too.
func TestTwoParts(t *testing.T) {
	for _, b := range texts() {
		want := sum.Of(b)
		for cut := range len(b) + 1 {
			if got := sum.More(sum.Of(b[:cut]), b[cut:]); got != want {
				t.Errorf("%x, cut at %d: %08x, want %08x", b, cut, got, want)
			}
		}
	}
}

// P4.2: three parts, cut at every two places, parts of nothing among them.
func TestThreeParts(t *testing.T) {
	for _, b := range texts() {
		b = b[:min(len(b), 60)]
		want := sum.Of(b)
		for one := range len(b) + 1 {
			for two := one; two <= len(b); two++ {
				if got := sum.More(sum.More(sum.Of(b[:one]), b[one:two]), b[two:]); got != want {
					t.Fatalf("%x, cut at %d and %d: %08x, want %08x", b, one, two, got, want)
				}
			}
		}
	}
}

// P4.2: byte by byte, with nothing between any two.
func TestByteByByte(t *testing.T) {
	for _, b := range texts() {
		got := sum.Of(nil)
		for i := range b {
			got = sum.More(sum.More(got, nil), b[i:i+1])
			if want := sum.Of(b[:i+1]); got != want {
				t.Errorf("%x, up to %d: %08x, want %08x", b, i, got, want)
			}
		}
	}
}

// P4.2: long texts in many parts, from any sum on.
func TestManyParts(t *testing.T) {
	r := rand.New(rand.NewSource(42))
	for range 60 {
		b, from := random(r, r.Intn(20000)), r.Uint32()
		got, left := from, b
		for len(left) > 0 {
			n := r.Intn(min(len(left), 1+r.Intn(4000)) + 1)
			got, left = sum.More(got, left[:n]), left[n:]
		}
		if want := sum.More(from, b); got != want {
			t.Fatalf("%d bytes in parts, from %08x on: %08x, want %08x", len(b), from, got, want)
		}
	}
}

// turned is b with those bits turned, the lowest bit of the first byte being 0.
func turned(b []byte, first int, pattern uint64) []byte {
	other := slices.Clone(b)
	for bit := range 64 {
		if pattern>>bit&1 == 1 {
			at := first + bit
			other[at/8] ^= 1 << (at % 8)
		}
	}
	return other
}

// P4.1: one bit that is turned, wherever it is, makes another sum, and each bit another one.
func TestOneBitTurned(t *testing.T) {
	for _, b := range append(texts(), random(rand.New(rand.NewSource(43)), 2000)) {
		seen := map[uint32]int{sum.Of(b): -1}
		for at := range 8 * len(b) {
			other := turned(b, at, 1)
			got := sum.Of(other)
			if w, ok := seen[got]; ok {
				t.Fatalf("%d bytes: bit %d turned has the sum of bit %d (-1: of none)", len(b), at, w)
			}
			seen[got] = at
			if want := crc32.ChecksumIEEE(other); got != want {
				t.Fatalf("%d bytes, bit %d turned: %08x, want %08x", len(b), at, got, want)
			}
		}
	}
}

// P4.1: up to 32 bits that stand together, the first and the last one turned, and any between: another sum.
func TestBitsTogetherTurned(t *testing.T) {
	r := rand.New(rand.NewSource(44))
	for _, b := range texts() {
		want := sum.Of(b)
		for wide := 2; wide <= min(32, 8*len(b)); wide++ {
			ends := uint64(1) | 1<<(wide-1)
			for at := range 8*len(b) - wide + 1 {
				for _, pattern := range []uint64{ends, 1<<wide - 1, ends | r.Uint64()&(1<<wide-1)} {
					other := turned(b, at, pattern)
					got := sum.Of(other)
					if got == want {
						t.Fatalf("%d bytes, bits %x from %d on turned: the same sum", len(b), pattern, at)
					}
				}
			}
		}
	}
}

// P4.1: the order of bytes counts, and zeros ahead and behind do too.
func TestOtherTexts(t *testing.T) {
	seen := map[uint32]string{}
	for _, s := range []string{
		"", "ab", "ba", "\x00ab", "\x00\x00ab", "ab\x00", "ab\x00\x00", "a\x00b", "abab", "aabb",
		"\x00", "\x00\x00", "\x00\x00\x00", "\x00\x00\x00\x00", "\x00\x00\x00\x00\x00",
	} {
		got := sum.Of([]byte(s))
		if w, ok := seen[got]; ok {
			t.Errorf("%q and %q have the same sum", s, w)
		}
		seen[got] = s
	}
}

// R3: what is given stays as it is, its spare room too; it may be changed behind the call, and then has another sum.
func TestGivenStays(t *testing.T) {
	for _, b := range texts() {
		given := append(slices.Clone(b), "room"...)[:len(b)]
		for range 2 {
			if got, want := sum.Of(given), plain(0, b); got != want {
				t.Errorf("Of(%x): %08x, want %08x", b, got, want)
			}
			if got, want := sum.More(7, given), plain(7, b); got != want {
				t.Errorf("More(7, %x): %08x, want %08x", b, got, want)
			}
			if whole := append(slices.Clone(b), "room"...); !bytes.Equal(given[:len(whole)], whole) {
				t.Errorf("%x was given, and is %x now", whole, given[:len(whole)])
			}
		}
		if len(given) > 0 {
			given[0] ^= 1
			if sum.Of(given) == sum.Of(b) {
				t.Errorf("%x and %x have the same sum", given, b)
			}
		}
	}
}

// R2: what is answered depends on nothing that was asked before.
func TestNothingKept(t *testing.T) {
	want := sum.Of([]byte("123456789"))
	for _, s := range starts() {
		sum.More(s, []byte("other"))
		if got := sum.Of([]byte("123456789")); got != want {
			t.Errorf("Of behind More(%08x): %08x, want %08x", s, got, want)
		}
	}
}
