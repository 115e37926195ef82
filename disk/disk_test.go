package disk_test

import (
	"math"
	"slices"
	"strings"
	"testing"

	"decamp/api"
	"decamp/disk"
)

func mustBe(t *testing.T, want, got api.Errno) {
	t.Helper()
	if got != want {
		t.Fatalf("%v, want %v", got, want)
	}
}

func newDisk(t *testing.T, room int) *disk.Disk {
	t.Helper()
	d, e := disk.New(room)
	if d == nil || e != api.OK {
		t.Fatalf("New(%d): %v, %v", room, d, e)
	}
	return d
}

func mustRead(t *testing.T, d *disk.Disk, name string) string {
	t.Helper()
	b, e := d.Read(name)
	if e != api.OK {
		t.Fatalf("Read(%q): %v", name, e)
	}
	return string(b)
}

// put lets a file have these bytes, the first ones safe, the others waiting.
func put(t *testing.T, d *disk.Disk, name, safe, waiting string) {
	t.Helper()
	if safe != "" {
		mustBe(t, api.OK, d.Append(name, []byte(safe)))
		mustBe(t, api.OK, d.Sync(name))
	}
	mustBe(t, api.OK, d.Append(name, []byte(waiting)))
}

// has holds that a disk that isn't lost has just these files, told as "name=safe|waiting", rising.
func has(t *testing.T, d *disk.Disk, want ...string) {
	t.Helper()
	got, used := []string{}, 0
	for _, name := range d.Names() {
		text, n := mustRead(t, d, name), d.Safe(name)
		if n < 0 || n > len(text) {
			t.Fatalf("Safe(%q): %d of %d bytes", name, n, len(text))
		}
		got = append(got, name+"="+text[:n]+"|"+text[n:])
		used += len(text)
	}
	if !slices.Equal(got, want) {
		t.Fatalf("%q, want %q", got, want)
	}
	if d.Used() != used {
		t.Fatalf("Used: %d, want %d", d.Used(), used)
	}
}

// hasLost holds that a disk is lost, and has just these files, whose bytes are read where all of them stay.
func hasLost(t *testing.T, d *disk.Disk, want ...string) {
	t.Helper()
	if !d.Lost() {
		t.Fatal("not lost")
	}
	whole := d.Clone()
	whole.Restart(slices.Repeat([]int{-1}, len(want))...)
	got, used := []string{}, 0
	for _, name := range d.Names() {
		text := mustRead(t, whole, name)
		got = append(got, name+"="+text[:d.Safe(name)]+"|"+text[d.Safe(name):])
		used += len(text)
	}
	if !slices.Equal(got, want) || d.Used() != used {
		t.Fatalf("%q, Used %d, want %q, %d", got, d.Used(), want, used)
	}
}

// deed is a call that may be done or not, by its name.
type deed struct {
	name string
	do   func(d *disk.Disk) api.Errno
}

// named is each call that takes a name, with that one.
func named(name string) []deed {
	return []deed{
		{"Append", func(d *disk.Disk) api.Errno { return d.Append(name, []byte("x")) }},
		{"Append of nothing", func(d *disk.Disk) api.Errno { return d.Append(name, nil) }},
		{"Sync", func(d *disk.Disk) api.Errno { return d.Sync(name) }},
		{"Cut to 0", func(d *disk.Disk) api.Errno { return d.Cut(name, 0) }},
		{"Cut to 1", func(d *disk.Disk) api.Errno { return d.Cut(name, 1) }},
		{"Cut below 0", func(d *disk.Disk) api.Errno { return d.Cut(name, -1) }},
		{"Rename from", func(d *disk.Disk) api.Errno { return d.Rename(name, "to") }},
		{"Rename to itself", func(d *disk.Disk) api.Errno { return d.Rename(name, name) }},
		{"Remove", func(d *disk.Disk) api.Errno { return d.Remove(name) }},
		{"Read", func(d *disk.Disk) api.Errno {
			b, e := d.Read(name)
			if len(b) > 0 {
				// Bytes beside an error are as wrong as no error.
				return api.OK
			}
			return e
		}},
	}
}

// P5.1: a room of 0 to MaxRoom, and no other.
func TestNew(t *testing.T) {
	for _, room := range []int{0, 1, 12000, api.MaxRoom - 1, api.MaxRoom} {
		d := newDisk(t, room)
		has(t, d)
		if d.Lost() {
			t.Errorf("New(%d) is lost", room)
		}
		mustBe(t, api.ErrFull, d.Append("f", make([]byte, room+1)))
		has(t, d)
		mustBe(t, api.OK, d.Append("f", make([]byte, room)))
		if d.Used() != room {
			t.Errorf("Used: %d, want %d", d.Used(), room)
		}
	}
	for _, room := range []int{math.MinInt, -1, api.MaxRoom + 1, math.MaxInt} {
		if d, e := disk.New(room); d != nil || e != api.ErrArg {
			t.Errorf("New(%d): %v, %v", room, d, e)
		}
	}
}

// P5.1: which names may be: of 1 to 12 bytes, each from 33 to 126.
func TestNames(t *testing.T) {
	right := []string{"a", "\x21", "\x7e", "abcdefghijkl", "\x21\x7e\x21\x7e", strings.Repeat("\x7e", 12), "snap", "wal+", "/", "."}
	for _, name := range right {
		d := newDisk(t, 10)
		put(t, d, name, "ab", "")
		has(t, d, name+"=ab|")
		mustBe(t, api.OK, d.Rename(name, "other"))
		mustBe(t, api.OK, d.Rename("other", name))
		mustBe(t, api.OK, d.Cut(name, 1))
		has(t, d, name+"=a|")
		mustBe(t, api.OK, d.Remove(name))
		has(t, d)
	}
	wrong := []string{"", "abcdefghijklm", strings.Repeat("x", 1000), "éééééé7", "é", "\x20", "\x7f", "\x00", "\x80", "\xff", "\n"}
	for at := range 12 {
		for _, c := range []string{"\x20", "\x7f"} {
			wrong = append(wrong, "abcdefghijkl"[:at]+c+"abcdefghijkl"[at+1:])
		}
	}
	for _, name := range wrong {
		d := newDisk(t, 10)
		put(t, d, "f", "ab", "c")
		put(t, d, "g", "h", "")
		for _, c := range named(name) {
			if e := c.do(d); e != api.ErrArg {
				t.Errorf("%s, %q: %v", c.name, name, e)
			}
		}
		for _, from := range []string{"f", "g", "none", ""} {
			if e := d.Rename(from, name); e != api.ErrArg {
				t.Errorf("Rename(%q, %q): %v", from, name, e)
			}
		}
		if n := d.Safe(name); n != 0 {
			t.Errorf("Safe(%q): %d", name, n)
		}
		has(t, d, "f=ab|c", "g=h|")
	}
}

// P5.1: what is asked of a file that isn't there.
func TestNoSuchFile(t *testing.T) {
	d := newDisk(t, 10)
	put(t, d, "f", "ab", "c")
	for _, name := range []string{"e", "F", "f+", "ff", "g"} {
		for _, c := range named(name) {
			if strings.HasPrefix(c.name, "Append") {
				continue
			}
			if e := c.do(d); e != api.ErrNone {
				t.Errorf("%s, %q: %v", c.name, name, e)
			}
		}
		mustBe(t, api.ErrNone, d.Rename(name, "f"))
		if n := d.Safe(name); n != 0 {
			t.Errorf("Safe(%q): %d", name, n)
		}
		has(t, d, "f=ab|c")
	}
}

// P5.1: what is put behind waits, in the order it came, till Sync.
func TestAppendAndSync(t *testing.T) {
	d := newDisk(t, 100)
	mustBe(t, api.OK, d.Append("f", []byte("ab")))
	has(t, d, "f=|ab")
	mustBe(t, api.OK, d.Append("f", []byte("\x00\xff")))
	has(t, d, "f=|ab\x00\xff")
	mustBe(t, api.OK, d.Append("e", []byte("x")))
	mustBe(t, api.OK, d.Sync("f"))
	has(t, d, "e=|x", "f=ab\x00\xff|")
	mustBe(t, api.OK, d.Sync("f"))
	mustBe(t, api.OK, d.Append("f", []byte("cd")))
	has(t, d, "e=|x", "f=ab\x00\xff|cd")
	mustBe(t, api.OK, d.Sync("e"))
	has(t, d, "e=x|", "f=ab\x00\xff|cd")
	mustBe(t, api.OK, d.Sync("f"))
	has(t, d, "e=x|", "f=ab\x00\xffcd|")
}

// P5.1: of no bytes nothing changes, of a file that is there and of one that isn't.
func TestAppendOfNothing(t *testing.T) {
	for _, b := range [][]byte{nil, {}, make([]byte, 0, 9)} {
		d := newDisk(t, 4)
		mustBe(t, api.OK, d.Append("f", b))
		has(t, d)
		mustBe(t, api.ErrNone, d.Sync("f"))
		put(t, d, "f", "ab", "c")
		put(t, d, "g", "h", "")
		mustBe(t, api.OK, d.Append("f", b))
		mustBe(t, api.OK, d.Append("g", b))
		mustBe(t, api.OK, d.Append("i", b))
		has(t, d, "f=ab|c", "g=h|")
	}
	d := newDisk(t, 0)
	mustBe(t, api.OK, d.Append("f", nil))
	mustBe(t, api.ErrFull, d.Append("f", []byte("a")))
	has(t, d)
}

// P5.1: all files' bytes together, safe ones and others, are as many as there is room for, and no more.
func TestRoom(t *testing.T) {
	d := newDisk(t, 10)
	put(t, d, "f", "abc", "de")
	mustBe(t, api.ErrFull, d.Append("g", []byte("123456")))
	mustBe(t, api.ErrFull, d.Append("f", []byte("123456")))
	has(t, d, "f=abc|de")
	mustBe(t, api.OK, d.Append("g", []byte("12345")))
	mustBe(t, api.ErrFull, d.Append("g", []byte("6")))
	mustBe(t, api.ErrFull, d.Append("f", []byte("f")))
	mustBe(t, api.ErrFull, d.Append("h", []byte("h")))
	has(t, d, "f=abc|de", "g=|12345")
	// All that takes bytes away makes room for as many.
	mustBe(t, api.OK, d.Sync("g"))
	mustBe(t, api.OK, d.Cut("g", 3))
	mustBe(t, api.ErrFull, d.Append("h", []byte("123")))
	mustBe(t, api.OK, d.Append("h", []byte("12")))
	mustBe(t, api.OK, d.Rename("g", "f"))
	mustBe(t, api.ErrFull, d.Append("h", []byte("345678")))
	mustBe(t, api.OK, d.Append("h", []byte("34567")))
	has(t, d, "f=123|", "h=|1234567")
	mustBe(t, api.OK, d.Remove("f"))
	mustBe(t, api.ErrFull, d.Append("h", []byte("89ab")))
	mustBe(t, api.OK, d.Append("h", []byte("89a")))
	d.Restart(4)
	has(t, d, "h=1234|")
	mustBe(t, api.ErrFull, d.Append("h", []byte("5678901")))
	mustBe(t, api.OK, d.Append("h", []byte("567890")))
	mustBe(t, api.OK, d.Cut("h", 0))
	mustBe(t, api.OK, d.Append("i", []byte("1234567890")))
	has(t, d, "i=|1234567890")
}

// P5.1: Cut leaves the first bytes, all safe; of none the file is gone.
func TestCut(t *testing.T) {
	for n, want := range []string{"", "a|", "ab|", "abc|", "abcd|"} {
		d := newDisk(t, 10)
		put(t, d, "f", "ab", "cd")
		put(t, d, "g", "", "h")
		for _, wrong := range []int{math.MinInt, -1, 5, 6, math.MaxInt} {
			mustBe(t, api.ErrArg, d.Cut("f", wrong))
		}
		has(t, d, "f=ab|cd", "g=|h")
		mustBe(t, api.OK, d.Cut("f", n))
		if n == 0 {
			has(t, d, "g=|h")
			mustBe(t, api.ErrNone, d.Cut("f", 0))
		} else {
			has(t, d, "f="+want, "g=|h")
			mustBe(t, api.ErrArg, d.Cut("f", n+1))
		}
		mustBe(t, api.OK, d.Append("f", []byte("xyz")))
		if n == 0 {
			has(t, d, "f=|xyz", "g=|h")
		} else {
			has(t, d, "f="+want+"xyz", "g=|h")
		}
	}
}

// P5.1: Rename of a file, to a new name, onto another file of whatever kind, and to itself.
func TestRename(t *testing.T) {
	for _, c := range []struct{ safe, waiting string }{{"", ""}, {"x", ""}, {"xyz", ""}, {"", "xyz"}, {"xy", "z"}} {
		d := newDisk(t, 20)
		put(t, d, "f", "ab", "")
		put(t, d, "g", c.safe, c.waiting)
		put(t, d, "h", "i", "j")
		mustBe(t, api.OK, d.Rename("f", "g"))
		has(t, d, "g=ab|", "h=i|j")
		mustBe(t, api.OK, d.Rename("g", "f"))
		has(t, d, "f=ab|", "h=i|j")
		mustBe(t, api.OK, d.Rename("f", "f"))
		has(t, d, "f=ab|", "h=i|j")
		// Nothing of g is left for a new one of that name.
		mustBe(t, api.OK, d.Append("g", []byte("k")))
		has(t, d, "f=ab|", "g=|k", "h=i|j")
	}
	d := newDisk(t, 20)
	put(t, d, "f", "ab", "c")
	put(t, d, "g", "", "h")
	put(t, d, "i", "j", "")
	for _, from := range []string{"f", "g"} {
		for _, to := range []string{"f", "g", "i", "k"} {
			mustBe(t, api.ErrBusy, d.Rename(from, to))
		}
	}
	has(t, d, "f=ab|c", "g=|h", "i=j|")
	mustBe(t, api.OK, d.Sync("f"))
	mustBe(t, api.OK, d.Rename("f", "g"))
	has(t, d, "g=abc|", "i=j|")
}

// P5.1: Remove takes away a file of whatever kind, that one alone.
func TestRemove(t *testing.T) {
	d := newDisk(t, 20)
	put(t, d, "f", "ab", "c")
	put(t, d, "g", "", "h")
	put(t, d, "i", "j", "")
	mustBe(t, api.OK, d.Remove("g"))
	has(t, d, "f=ab|c", "i=j|")
	mustBe(t, api.ErrNone, d.Remove("g"))
	mustBe(t, api.OK, d.Remove("f"))
	has(t, d, "i=j|")
	mustBe(t, api.OK, d.Remove("i"))
	has(t, d)
	mustBe(t, api.OK, d.Append("f", []byte("d")))
	has(t, d, "f=|d")
}

// P5.1: Names rise, byte by byte, in whatever order the files came.
func TestNamesRise(t *testing.T) {
	want := []string{"!", "+", "0", "10", "9", "A", "Z", "a", "aa", "ab", "b", "~", "~~"}
	l := slices.Clone(want)
	for range len(l) {
		l = append(l[1:], l[0])
		slices.Reverse(l[1:])
		d := newDisk(t, 100)
		for _, name := range l {
			put(t, d, name, "x", "")
		}
		if got := d.Names(); !slices.Equal(got, want) {
			t.Errorf("Names: %q", got)
		}
	}
}

// R6: which error is answered where several apply.
func TestWhichError(t *testing.T) {
	d := newDisk(t, 3)
	put(t, d, "f", "a", "b")
	long := []byte("long")
	for _, c := range []struct {
		name      string
		got, want api.Errno
	}{
		{"Append of too much to a wrong name", d.Append("", long), api.ErrArg},
		{"Cut below 0 of a wrong name", d.Cut("", -1), api.ErrArg},
		{"Cut below 0 of none", d.Cut("g", -1), api.ErrNone},
		{"Cut too far of none", d.Cut("g", 9), api.ErrNone},
		{"Rename of a wrong name to a wrong one", d.Rename("", ""), api.ErrArg},
		{"Rename of none to a wrong name", d.Rename("g", ""), api.ErrArg},
		{"Rename of what waits to a wrong name", d.Rename("f", ""), api.ErrArg},
		{"Rename of none to itself", d.Rename("g", "g"), api.ErrNone},
		{"Rename of none to what waits", d.Rename("g", "f"), api.ErrNone},
		{"Rename of what waits to itself", d.Rename("f", "f"), api.ErrBusy},
	} {
		if c.got != c.want {
			t.Errorf("%s: %v, want %v", c.name, c.got, c.want)
		}
	}
	has(t, d, "f=a|b")
	// What is refused is refused where the power would go, too, and that fuse is as it was.
	mustBe(t, api.OK, d.Fuse(0))
	mustBe(t, api.ErrFull, d.Append("f", long))
	mustBe(t, api.ErrNone, d.Sync("g"))
	mustBe(t, api.ErrArg, d.Cut("f", 3))
	mustBe(t, api.ErrBusy, d.Rename("f", "g"))
	mustBe(t, api.ErrNone, d.Remove("g"))
	mustBe(t, api.ErrArg, d.Sync(""))
	mustBe(t, api.ErrArg, d.Fuse(-1))
	has(t, d, "f=a|b")
	mustBe(t, api.ErrLost, d.Sync("f"))
	hasLost(t, d, "f=a|b")
	mustBe(t, api.ErrLost, d.Fuse(-1))
}

// P5.1: a disk that is lost does nothing, whatever it is asked; what Names, Safe and Used tell, it tells.
func TestLost(t *testing.T) {
	d := newDisk(t, 12)
	put(t, d, "f", "ab", "cd")
	put(t, d, "g", "h", "")
	mustBe(t, api.OK, d.Fuse(0))
	if d.Lost() {
		t.Error("lost by Fuse alone")
	}
	mustBe(t, api.ErrLost, d.Append("e", []byte("xyz")))
	want := []string{"e=|xyz", "f=ab|cd", "g=h|"}
	hasLost(t, d, want...)
	for _, name := range []string{"e", "f", "g", "none", "", "abcdefghijklm"} {
		for _, c := range named(name) {
			if e := c.do(d); e != api.ErrLost {
				t.Errorf("%s, %q: %v", c.name, name, e)
			}
		}
		mustBe(t, api.ErrLost, d.Append(name, []byte("too much for it")))
		mustBe(t, api.ErrLost, d.Rename("g", name))
	}
	for _, n := range []int{-1, 0, 1} {
		mustBe(t, api.ErrLost, d.Fuse(n))
	}
	hasLost(t, d, want...)
	if d.Safe("f") != 2 || d.Safe("e") != 0 || d.Safe("none") != 0 || d.Used() != 8 {
		t.Errorf("Safe %d, %d, %d, Used %d", d.Safe("f"), d.Safe("e"), d.Safe("none"), d.Used())
	}
	d.Restart(2, 1)
	if d.Lost() {
		t.Error("lost behind a Restart")
	}
	has(t, d, "e=xy|", "f=abc|", "g=h|")
	// No fuse is left, neither the one that went nor those that were refused.
	for range 20 {
		mustBe(t, api.OK, d.Sync("f"))
	}
}
