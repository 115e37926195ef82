package disk_test

import (
	"math"
	"slices"
	"strconv"
	"strings"
	"testing"

	"decamp/api"
	"decamp/disk"
)

// deeds is each kind of deed that would be done, with what the disk of laid has when the power goes at it.
func deeds() []struct {
	deed
	lost []string
} {
	laid := []string{"f=ab|cd", "g=h|", "i=|j"}
	type kind = struct {
		deed
		lost []string
	}
	return []kind{
		{deed{"Append", func(d *disk.Disk) api.Errno { return d.Append("f", []byte("ef")) }}, []string{"f=ab|cdef", "g=h|", "i=|j"}},
		{deed{"Append to a safe one", func(d *disk.Disk) api.Errno { return d.Append("g", []byte("ef")) }}, []string{"f=ab|cd", "g=h|ef", "i=|j"}},
		{deed{"Append to a new one", func(d *disk.Disk) api.Errno { return d.Append("e", []byte("ef")) }}, []string{"e=|ef", "f=ab|cd", "g=h|", "i=|j"}},
		{deed{"Append that fills the room", func(d *disk.Disk) api.Errno { return d.Append("f", []byte("efgh")) }}, []string{"f=ab|cdefgh", "g=h|", "i=|j"}},
		{deed{"Append of nothing", func(d *disk.Disk) api.Errno { return d.Append("f", nil) }}, laid},
		{deed{"Append of nothing to a new one", func(d *disk.Disk) api.Errno { return d.Append("e", nil) }}, laid},
		{deed{"Sync", func(d *disk.Disk) api.Errno { return d.Sync("f") }}, laid},
		{deed{"Sync of a safe one", func(d *disk.Disk) api.Errno { return d.Sync("g") }}, laid},
		{deed{"Cut", func(d *disk.Disk) api.Errno { return d.Cut("f", 3) }}, laid},
		{deed{"Cut to 0", func(d *disk.Disk) api.Errno { return d.Cut("f", 0) }}, laid},
		{deed{"Cut to all", func(d *disk.Disk) api.Errno { return d.Cut("f", 4) }}, laid},
		{deed{"Rename", func(d *disk.Disk) api.Errno { return d.Rename("g", "k") }}, laid},
		{deed{"Rename onto another one", func(d *disk.Disk) api.Errno { return d.Rename("g", "f") }}, laid},
		{deed{"Rename to itself", func(d *disk.Disk) api.Errno { return d.Rename("g", "g") }}, laid},
		{deed{"Remove", func(d *disk.Disk) api.Errno { return d.Remove("f") }}, laid},
	}
}

// laid is a disk with files of all kinds, and room for four bytes more.
func laid(t *testing.T) *disk.Disk {
	t.Helper()
	d := newDisk(t, 10)
	put(t, d, "f", "ab", "cd")
	put(t, d, "g", "h", "")
	put(t, d, "i", "", "j")
	has(t, d, "f=ab|cd", "g=h|", "i=|j")
	return d
}

// P5.2: n deeds are done, and at the next one the power goes: of each kind, behind deeds of each kind.
func TestFuse(t *testing.T) {
	// Each of these is answered OK, and leaves all as it was laid; what is refused, or only asked, counts for nothing.
	ahead := []func(d *disk.Disk) api.Errno{
		func(d *disk.Disk) api.Errno { return d.Append("g", nil) },
		func(d *disk.Disk) api.Errno { return d.Sync("g") },
		func(d *disk.Disk) api.Errno { return d.Cut("g", 1) },
		func(d *disk.Disk) api.Errno { return d.Rename("g", "g") },
	}
	for _, c := range deeds() {
		for n := range 2*len(ahead) + 1 {
			d := laid(t)
			mustBe(t, api.OK, d.Fuse(n))
			for i := range n {
				refused(t, d)
				mustBe(t, api.OK, ahead[i%len(ahead)](d))
			}
			refused(t, d)
			has(t, d, "f=ab|cd", "g=h|", "i=|j")
			if e := c.do(d); e != api.ErrLost {
				t.Fatalf("%s behind %d: %v", c.name, n, e)
			}
			hasLost(t, d, c.lost...)
		}
		// The deed itself counts, each kind of it, when it is done.
		d := laid(t)
		mustBe(t, api.OK, d.Fuse(1))
		mustBe(t, api.OK, c.do(d))
		if d.Lost() {
			t.Fatalf("%s ahead of the fuse: lost", c.name)
		}
		mustBe(t, api.ErrLost, d.Append("z", nil))
	}
}

// refused does what answers an error, or tells but what there is: none of it burns a fuse.
func refused(t *testing.T, d *disk.Disk) {
	t.Helper()
	mustBe(t, api.ErrFull, d.Append("f", []byte("efghi")))
	mustBe(t, api.ErrArg, d.Append("", nil))
	mustBe(t, api.ErrNone, d.Sync("e"))
	mustBe(t, api.ErrArg, d.Cut("f", 5))
	mustBe(t, api.ErrNone, d.Cut("e", 0))
	mustBe(t, api.ErrBusy, d.Rename("f", "f"))
	mustBe(t, api.ErrNone, d.Rename("e", "f"))
	mustBe(t, api.ErrArg, d.Rename("g", ""))
	mustBe(t, api.ErrNone, d.Remove("e"))
	mustBe(t, api.ErrArg, d.Fuse(-1))
	mustBe(t, api.ErrArg, d.Fuse(math.MinInt))
	mustRead(t, d, "f")
	if d.Lost() || d.Used() != 6 || d.Safe("f") != 2 || len(d.Names()) != 3 {
		t.Fatal("not as it was laid")
	}
}

// P5.2: a later fuse takes the place of the one ahead of it, be it longer or shorter, or half burnt.
func TestFuseBehindFuse(t *testing.T) {
	for first := range 5 {
		for burnt := range first + 1 {
			for later := range 5 {
				d := laid(t)
				mustBe(t, api.OK, d.Fuse(first))
				for range burnt {
					mustBe(t, api.OK, d.Sync("g"))
				}
				mustBe(t, api.OK, d.Fuse(later))
				for range later {
					mustBe(t, api.OK, d.Sync("g"))
				}
				mustBe(t, api.ErrLost, d.Sync("g"))
			}
		}
	}
	d := laid(t)
	mustBe(t, api.OK, d.Fuse(math.MaxInt))
	for range 100 {
		mustBe(t, api.OK, d.Sync("g"))
	}
	has(t, d, "f=ab|cd", "g=h|", "i=|j")
}

// P5.2: a disk that nobody gave a fuse goes on, and so does one behind a Restart, whether it was lost or not.
func TestNoFuse(t *testing.T) {
	d := laid(t)
	for range 100 {
		mustBe(t, api.OK, d.Sync("g"))
	}
	mustBe(t, api.OK, d.Fuse(1))
	d.Restart()
	for range 100 {
		mustBe(t, api.OK, d.Sync("g"))
	}
	mustBe(t, api.OK, d.Fuse(2))
	mustBe(t, api.OK, d.Sync("g"))
	mustBe(t, api.OK, d.Sync("g"))
	mustBe(t, api.ErrLost, d.Sync("g"))
	d.Restart()
	if d.Lost() {
		t.Error("lost behind a Restart")
	}
	for range 100 {
		mustBe(t, api.OK, d.Sync("g"))
	}
	// A fuse that is given behind a Restart burns as the first one did.
	mustBe(t, api.OK, d.Fuse(1))
	mustBe(t, api.OK, d.Sync("g"))
	mustBe(t, api.ErrLost, d.Sync("g"))
	hasLost(t, d, "f=ab|", "g=h|")
}

// P5.2: the chapter's example, and how much of each file stays: by the numbers, in order of the names.
func TestRestart(t *testing.T) {
	d := newDisk(t, 10)
	put(t, d, "f", "ab", "cd")
	d.Restart(1)
	has(t, d, "f=abc|")
	for _, c := range []struct {
		keep []int
		want string
	}{
		{nil, "f=ab| g=h|"},
		{[]int{0}, "f=ab| g=h|"},
		{[]int{1}, "f=abc| g=h|"},
		{[]int{2}, "f=abcd| g=h|"},
		{[]int{3}, "f=ab| g=h|"},
		{[]int{4}, "f=abc| g=h|"},
		{[]int{-1}, "f=abcd| g=h|"},
		{[]int{-2}, "f=abc| g=h|"},
		{[]int{-3}, "f=ab| g=h|"},
		{[]int{-4}, "f=abcd| g=h|"},
		{[]int{0, 1}, "f=ab| g=h| i=j|"},
		{[]int{0, 2}, "f=ab| g=h|"},
		{[]int{0, -1}, "f=ab| g=h| i=j|"},
		{[]int{0, -2}, "f=ab| g=h|"},
		{[]int{0, 0, 3}, "f=ab| g=h| k=lmn|"},
		{[]int{2, 1, 3}, "f=abcd| g=h| i=j| k=lmn|"},
		{[]int{2, 1, 3, 1, 1, 1}, "f=abcd| g=h| i=j| k=lmn|"},
		{[]int{0, 0, 0, 1, 2, 3}, "f=ab| g=h|"},
		{[]int{1, 0, 2}, "f=abc| g=h| k=lm|"},
		{[]int{math.MaxInt, math.MaxInt, math.MaxInt}, "f=abc| g=h| i=j| k=lmn|"},
		{[]int{math.MinInt, math.MinInt, math.MinInt}, "f=abc| g=h|"},
		{[]int{math.MinInt + 1, math.MinInt + 1, math.MinInt + 1}, "f=abcd| g=h| i=j| k=l|"},
	} {
		for _, lost := range []bool{false, true} {
			d := newDisk(t, 20)
			put(t, d, "k", "", "lmn")
			put(t, d, "i", "", "j")
			put(t, d, "g", "h", "")
			put(t, d, "f", "ab", "cd")
			if lost {
				mustBe(t, api.OK, d.Fuse(0))
				mustBe(t, api.ErrLost, d.Remove("f"))
			}
			keep := slices.Clone(c.keep)
			d.Restart(keep...)
			if !slices.Equal(keep, c.keep) {
				t.Errorf("Restart%v changed its numbers to %v", c.keep, keep)
			}
			if d.Lost() {
				t.Errorf("Restart%v: lost", c.keep)
			}
			has(t, d, strings.Fields(c.want)...)
		}
	}
}

// P5.2: each number, from far below 0 to far above, keeps as many bytes as it is modulo one more than wait.
func TestRestartModulo(t *testing.T) {
	for waits := 1; waits < 8; waits++ {
		stay := 0
		for k := -10 * (waits + 1); k < 10*(waits+1); k++ {
			d := newDisk(t, 20)
			put(t, d, "f", "ab", "cdefghijk"[:waits])
			d.Restart(k)
			has(t, d, "f=ab"+"cdefghijk"[:stay]+"|")
			stay++
			if stay > waits {
				stay = 0
			}
		}
	}
}

// P5.2: a file of which nothing is left is gone, and one of its name begins anew.
func TestRestartOfNothing(t *testing.T) {
	d := newDisk(t, 4)
	d.Restart()
	d.Restart(1, 2, 3)
	has(t, d)
	put(t, d, "f", "", "abcd")
	d.Restart(5)
	has(t, d)
	mustBe(t, api.ErrNone, d.Sync("f"))
	put(t, d, "f", "e", "fgh")
	has(t, d, "f=e|fgh")
	d.Restart(2)
	has(t, d, "f=efg|")
	// All is safe now: a second Restart takes nothing away, whatever its numbers.
	d.Restart()
	d.Restart(0, 1)
	has(t, d, "f=efg|")
}

// P5.3: cut after each byte of a run of Appends, what stays is a beginning, and no safe byte is gone.
func TestEachLoss(t *testing.T) {
	text := "abcdefghijklmnop"
	for synced := range len(text) {
		for n := range len(text) + 2 {
			d := newDisk(t, len(text))
			put(t, d, "f", text[:synced], "")
			mustBe(t, api.OK, d.Fuse(n))
			at := synced
			for at < len(text) && d.Append("f", []byte{text[at]}) == api.OK {
				at++
			}
			lost := d.Lost()
			if want := n < len(text)-synced; lost != want {
				t.Fatalf("lost %v behind %d of %d", lost, n, len(text)-synced)
			}
			if lost {
				at++
			}
			for keep := range at - synced + 1 {
				c := d.Clone()
				c.Restart(keep)
				if synced+keep == 0 {
					has(t, c)
				} else {
					has(t, c, "f="+text[:synced+keep]+"|")
				}
			}
		}
	}
}

// P5.2: a clone has all that there is, and of either nothing is seen at the other one.
func TestClone(t *testing.T) {
	for _, swapped := range []bool{false, true} {
		d := laid(t)
		c := d.Clone()
		has(t, c, "f=ab|cd", "g=h|", "i=|j")
		a, b := d, c
		if swapped {
			a, b = c, d
		}
		// The room is each one's own, and so is spare room behind each file's bytes.
		mustBe(t, api.OK, a.Append("f", []byte("12")))
		mustBe(t, api.OK, b.Append("f", []byte("3456")))
		mustBe(t, api.ErrFull, b.Append("f", []byte("7")))
		mustBe(t, api.OK, a.Append("i", []byte("89")))
		has(t, a, "f=ab|cd12", "g=h|", "i=|j89")
		has(t, b, "f=ab|cd3456", "g=h|", "i=|j")
		mustBe(t, api.OK, a.Cut("f", 1))
		mustBe(t, api.OK, a.Append("f", []byte("zyxw")))
		mustBe(t, api.OK, a.Sync("i"))
		mustBe(t, api.OK, a.Rename("g", "k"))
		has(t, a, "f=a|zyxw", "i=j89|", "k=h|")
		has(t, b, "f=ab|cd3456", "g=h|", "i=|j")
		mustBe(t, api.OK, a.Remove("f"))
		a.Restart()
		has(t, a, "i=j89|", "k=h|")
		has(t, b, "f=ab|cd3456", "g=h|", "i=|j")
		b.Restart(1)
		mustBe(t, api.OK, b.Append("g", []byte("no")))
		has(t, a, "i=j89|", "k=h|")
		has(t, b, "f=abc|", "g=h|no")
	}
}

// P5.2: a clone's fuse is as long, and burns by itself; of a lost disk it is lost, and is restarted by itself.
func TestCloneOfFuse(t *testing.T) {
	for _, swapped := range []bool{false, true} {
		d := laid(t)
		mustBe(t, api.OK, d.Fuse(2))
		mustBe(t, api.OK, d.Sync("g"))
		c := d.Clone()
		a, b := d, c
		if swapped {
			a, b = c, d
		}
		mustBe(t, api.OK, a.Sync("g"))
		mustBe(t, api.ErrLost, a.Append("g", []byte("k")))
		if b.Lost() {
			t.Fatal("lost with the other one")
		}
		mustBe(t, api.OK, b.Sync("g"))
		has(t, b, "f=ab|cd", "g=h|", "i=|j")
		hasLost(t, a, "f=ab|cd", "g=h|k", "i=|j")
		other := a.Clone()
		a.Restart(0, 1)
		has(t, a, "f=ab|", "g=hk|")
		hasLost(t, other, "f=ab|cd", "g=h|k", "i=|j")
		mustBe(t, api.ErrLost, other.Sync("f"))
		mustBe(t, api.ErrLost, b.Sync("g"))
	}
}

// R3: what is handed in is neither kept nor changed, its spare room neither.
func TestHandedIn(t *testing.T) {
	d := newDisk(t, 100)
	b := []byte("abcdefgh")
	mustBe(t, api.OK, d.Append("f", b[:4]))
	mustBe(t, api.OK, d.Append("f", []byte("123456789")))
	if string(b) != "abcdefgh" {
		t.Errorf("handed in, and then %q", b)
	}
	for i := range b {
		b[i] = '-'
	}
	has(t, d, "f=|abcd123456789")
	mustBe(t, api.OK, d.Append("g", b))
	mustBe(t, api.OK, d.Append("g", b))
	b[0] = '+'
	has(t, d, "f=|abcd123456789", "g=|----------------")
}

// R3: what is answered is new: neither it, nor its spare room, is anybody else's.
func TestAnswered(t *testing.T) {
	d := newDisk(t, 1000)
	put(t, d, "f", "abc", "d")
	for i := range 20 {
		b, e := d.Read("f")
		mustBe(t, api.OK, e)
		c, e := d.Read("f")
		mustBe(t, api.OK, e)
		spoil(b)
		if string(c) != mustRead(t, d, "f") {
			t.Fatal("two answers share memory")
		}
		mustBe(t, api.OK, d.Append("f", []byte(strconv.Itoa(i))))
		spoil(b)
		spoil(c)
		l := d.Names()
		for i := range l[:cap(l)] {
			l[:cap(l)][i] = "z"
		}
	}
	has(t, d, "f=abc|d012345678910111213141516171819")
}

// spoil writes over bytes, and all of their spare room.
func spoil(b []byte) {
	b = b[:cap(b)]
	for i := range b {
		b[i] = '-'
	}
}

// R1: a nil disk answers ErrArg, or zero.
func TestNil(t *testing.T) {
	var d *disk.Disk
	for _, name := range []string{"f", "", "abcdefghijklm"} {
		for _, c := range named(name) {
			if e := c.do(d); e != api.ErrArg {
				t.Errorf("%s, %q of nil: %v", c.name, name, e)
			}
		}
		if n := d.Safe(name); n != 0 {
			t.Errorf("Safe(%q) of nil: %d", name, n)
		}
	}
	for _, n := range []int{-1, 0, 1} {
		if e := d.Fuse(n); e != api.ErrArg {
			t.Errorf("Fuse(%d) of nil: %v", n, e)
		}
	}
	d.Restart()
	d.Restart(1, -1)
	if len(d.Names()) != 0 || d.Used() != 0 || d.Lost() || d.Clone() != nil {
		t.Errorf("nil: Names %q, Used %d, Lost %v, Clone %v", d.Names(), d.Used(), d.Lost(), d.Clone())
	}
}
