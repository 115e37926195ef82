package wal_test

import (
	"bytes"
	"encoding/binary"
	"encoding/hex"
	"hash/crc32"
	"math/rand"
	"slices"
	"strings"
	"testing"

	"decamp/api"
	"decamp/wal"
)

// head is the first eight bytes of a frame of that length, with the sum that a record of these bytes has there.
func head(length uint32, record string) string {
	four := binary.BigEndian.AppendUint32(nil, length)
	return string(binary.BigEndian.AppendUint32(four, crc32.ChecksumIEEE(append(four, record...))))
}

// framed is the frames of records, as the chapter says them, without the package's own code.
func framed(records ...string) string {
	all := ""
	for _, r := range records {
		all += head(uint32(len(r)), r) + r
	}
	return all
}

// texts are records, to be held against others whether one of no bytes is nil or not.
func texts(records [][]byte) []string {
	l := []string{}
	for _, r := range records {
		l = append(l, string(r))
	}
	return l
}

// list is the other way round.
func list(records ...string) [][]byte {
	l := [][]byte{}
	for _, r := range records {
		l = append(l, []byte(r))
	}
	return l
}

// long is a record of so many bytes, each another one than those around it.
func long(size int) string {
	b := make([]byte, size)
	for i := range b {
		b[i] = byte(i * 7)
	}
	return string(b)
}

// spoil writes over bytes, and all of their spare room.
func spoil(b []byte) {
	b = b[:cap(b)]
	for i := range b {
		b[i] = '-'
	}
}

// scans holds that Scan of b tells these records, and that they end there.
func scans(t *testing.T, b string, end int, want ...string) {
	t.Helper()
	given := []byte(b)
	got, at := wal.Scan(given)
	if !slices.Equal(texts(got), want) || at != end {
		t.Fatalf("Scan: %d records to %d, want %d to %d", len(got), at, len(want), end)
	}
	if string(given) != b {
		t.Fatal("Scan changed what it was given")
	}
}

// P6.1: a frame's bytes, written out.
func TestFrame(t *testing.T) {
	for _, c := range []struct{ record, want string }{
		{"", "00000000" + "2144df1c"},
		{"\x00", "00000001" + "df39c65c" + "00"},
		{"ab", "00000002" + "6d1c2f5f" + "6162"},
		{"123456789", "00000009" + "de9c40c0" + "313233343536373839"},
	} {
		got, e := wal.Frame([]byte(c.record))
		if hex.EncodeToString(got) != c.want || e != api.OK {
			t.Errorf("Frame(%q): %x, %v, want %s", c.record, got, e, c.want)
		}
	}
	got, e := wal.Frame(nil)
	if string(got) != framed("") || e != api.OK {
		t.Errorf("Frame of nil: %x, %v", got, e)
	}
}

// P6.1: frames of all sizes up to MaxRecord, there and back, and of none above it.
func TestFrameSizes(t *testing.T) {
	for _, size := range []int{0, 1, 2, 3, 4, 7, 8, 9, 127, 128, 255, 256, 257, 32767, 32768, api.MaxRecord - 1, api.MaxRecord} {
		record := long(size)
		got, e := wal.Frame([]byte(record))
		if string(got) != framed(record) || e != api.OK {
			t.Errorf("Frame of %d bytes: %d, %v", size, len(got), e)
		}
		scans(t, string(got), size+8, record)
	}
	for _, size := range []int{api.MaxRecord + 1, api.MaxRecord + 2, 1 << 16, api.MaxRoom, 1 << 24} {
		got, e := wal.Frame(make([]byte, size))
		if len(got) > 0 || e != api.ErrLong {
			t.Errorf("Frame of %d bytes: %d, %v", size, len(got), e)
		}
	}
}

// P6.1: all whole frames with which it begins, and where they end.
func TestScan(t *testing.T) {
	most := long(api.MaxRecord)
	for _, l := range [][]string{
		{},
		{""},
		{"a"},
		{"", "", ""},
		{"a", "", "bc"},
		{"ab", "ab", "ab", "ab"},
		{most},
		{"a", most, "b", most},
		{framed("a"), framed("b", "c")},
		{"\x00\x00\x00\x00", "\xff\xff\xff\xff\xff\xff\xff\xff"},
	} {
		all := framed(l...)
		scans(t, all, len(all), l...)
		// None of these is a frame, nor the beginning of one that is whole.
		for _, behind := range []string{"\x00", strings.Repeat("\x00", 8), strings.Repeat("\x00", 100), "\xff", "x", strings.Repeat("\xff", 9), long(50)} {
			scans(t, all+behind, len(all), l...)
			// What comes behind what isn't a frame isn't told, be it as whole as it may.
			scans(t, all+behind+framed("a", "b"), len(all), l...)
		}
	}
	got, end := wal.Scan(nil)
	if len(got) > 0 || end != 0 {
		t.Errorf("Scan of nil: %q, %d", got, end)
	}
}

// P6.1: of frames that are cut off anywhere those that are whole.
func TestScanCutOff(t *testing.T) {
	l := []string{"ab", "", "cdefghijklm", "n"}
	all := framed(l...)
	for n := range len(all) + 1 {
		whole := 0
		for whole < len(l) && len(framed(l[:whole+1]...)) <= n {
			whole++
		}
		scans(t, all[:n], len(framed(l[:whole]...)), l[:whole]...)
	}
	most := framed("a", long(api.MaxRecord))
	for _, n := range []int{9, 10, 16, 17, 18, 1000, len(most) - 1} {
		scans(t, most[:n], 9, "a")
	}
}

// P6.1: of frames in which any bit is another one those ahead of it.
func TestScanWrongBits(t *testing.T) {
	l := []string{"ab", "", "cdefgh", "ij"}
	all := framed(l...)
	for i := range len(all) * 8 {
		b := []byte(all)
		b[i/8] ^= 1 << (i % 8)
		whole := 0
		for len(framed(l[:whole+1]...)) <= i/8 {
			whole++
		}
		scans(t, string(b), len(framed(l[:whole]...)), l[:whole]...)
	}
}

// P6.1: a frame with a wrong length, or a wrong sum, of which all else would do.
func TestScanWrongFrames(t *testing.T) {
	over := long(api.MaxRecord + 1)
	far := long(1 << 17)
	for name, wrong := range map[string]string{
		"a length above MaxRecord, all there":       head(uint32(len(over)), over) + over,
		"a length far above it, all there":          head(uint32(len(far)), far) + far,
		"a length of 2^31":                          head(1<<31, "ab") + "ab",
		"a length of 2^32 - 1":                      head(1<<32-1, "ab") + "ab",
		"a length one too great":                    head(3, "ab") + "ab",
		"a length one too small":                    head(1, "ab") + "ab",
		"a length with the lowest byte first":       "\x02\x00\x00\x00" + head(2, "ab")[4:] + "ab",
		"a sum of 0":                                "\x00\x00\x00\x02\x00\x00\x00\x00ab",
		"a sum of the record alone":                 "\x00\x00\x00\x02" + string(binary.BigEndian.AppendUint32(nil, crc32.ChecksumIEEE([]byte("ab")))) + "ab",
		"a sum of the length alone":                 head(2, "")[:8] + "ab",
		"a sum with the lowest byte first":          "\x00\x00\x00\x02" + string(binary.LittleEndian.AppendUint32(nil, crc32.ChecksumIEEE([]byte("\x00\x00\x00\x02ab")))) + "ab",
		"a sum ahead of the length":                 head(2, "ab")[4:] + "\x00\x00\x00\x02" + "ab",
		"a sum of other bytes":                      head(2, "ac") + "ab",
		"a record ahead of its frame":               "ab" + head(2, "ab"),
		"a frame of nothing but for its last byte":  framed("")[:7],
		"a frame of nothing whose sum is wrong":     "\x00\x00\x00\x00\x21\x44\xdf\x1d",
		"a length of 4 bytes, and no sum behind it": "\x00\x00\x00\x00",
	} {
		for _, ahead := range [][]string{{}, {"x"}, {"", "yz"}} {
			all := framed(ahead...)
			got, end := wal.Scan([]byte(all + wrong))
			if !slices.Equal(texts(got), ahead) || end != len(all) {
				t.Errorf("%s behind %q: %d records to %d", name, ahead, len(got), end)
			}
		}
	}
}

// P6.1: of random bytes behind random frames no more is told than the chapter's words say.
func TestScanRandom(t *testing.T) {
	r := rand.New(rand.NewSource(1))
	for range 3000 {
		l := []string{}
		for range r.Intn(6) {
			b := make([]byte, r.Intn(20))
			r.Read(b)
			l = append(l, string(b))
		}
		all := framed(l...)
		behind := make([]byte, r.Intn(30))
		r.Read(behind)
		if len(behind) >= 8 {
			// Lengths that may be, so that it is the sums by which it is found out.
			copy(behind, []byte{0, 0, 0, byte(r.Intn(len(behind)))})
		}
		scans(t, all+string(behind), len(all), l...)
	}
}

// R3: a frame is new memory, its spare room too, and what is handed in is neither kept nor changed.
func TestFrameMemory(t *testing.T) {
	room := []byte("abcdefgh")
	b := room[:4]
	x, _ := wal.Frame(b)
	y, _ := wal.Frame(b)
	if string(room) != "abcdefgh" {
		t.Errorf("handed in, and then %q", room)
	}
	spoil(room)
	if string(x) != framed("abcd") {
		t.Errorf("%q behind a change of what was handed in", x)
	}
	spoil(x)
	if string(y) != framed("abcd") {
		t.Errorf("%q behind a change of another answer", y)
	}
	if string(room) != "--------" {
		t.Errorf("%q behind a change of the answer", room)
	}
}

// R3: each record that Scan tells is new memory, its spare room too.
func TestScanMemory(t *testing.T) {
	want := []string{"ab", "", "cdef", "g", long(100)}
	given := []byte(framed(want...) + "xyz")
	was := bytes.Clone(given)
	l, _ := wal.Scan(given)
	other, _ := wal.Scan(given)
	spoil(l[2])
	spoil(l[0])
	spoil(l[1])
	if string(l[3]) != "g" || string(l[4]) != want[4] {
		t.Error("two records share memory")
	}
	for i := range l[:cap(l)] {
		spoil(l[:cap(l)][i])
		l[:cap(l)][i] = nil
	}
	if !bytes.Equal(given, was) {
		t.Error("an answer shares memory with what was handed in")
	}
	if !slices.Equal(texts(other), want) {
		t.Error("two answers share memory")
	}
	spoil(given)
	if !slices.Equal(texts(other), want) {
		t.Error("what was handed in is kept")
	}
}
