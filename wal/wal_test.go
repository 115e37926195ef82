package wal_test

import (
	"slices"
	"strconv"
	"strings"
	"testing"

	"decamp/api"
	"decamp/disk"
	"decamp/wal"
)

func mustBe(t *testing.T, want, got api.Errno) {
	t.Helper()
	if got != want {
		t.Fatalf("%v, want %v", got, want)
	}
}

func newDisk(t *testing.T, room int) *disk.Disk {
	t.Helper()
	d, e := disk.New(room)
	mustBe(t, api.OK, e)
	return d
}

// lay lets a file have these bytes behind its others: the first ones are safe, the others wait.
func lay(t *testing.T, d *disk.Disk, name, safe, waiting string) {
	t.Helper()
	if safe != "" {
		mustBe(t, api.OK, d.Append(name, []byte(safe)))
		mustBe(t, api.OK, d.Sync(name))
	}
	mustBe(t, api.OK, d.Append(name, []byte(waiting)))
}

// file is how a test tells of a file: its name, its safe bytes, and those that wait.
func file(name, safe, waiting string) string {
	return name + "=" + safe + "|" + waiting
}

// has holds that a disk, lost or not, has just these files, rising.
func has(t *testing.T, d *disk.Disk, want ...string) {
	t.Helper()
	whole, got := d, []string{}
	if d.Lost() {
		whole = d.Clone()
		whole.Restart(slices.Repeat([]int{-1}, len(d.Names()))...)
	}
	for _, name := range d.Names() {
		b, e := whole.Read(name)
		mustBe(t, api.OK, e)
		n := d.Safe(name)
		got = append(got, file(name, string(b[:n]), string(b[n:])))
	}
	if !slices.Equal(got, want) {
		t.Fatalf("%.300q, want %.300q", got, want)
	}
}

// opens opens a log, and holds that it has these records.
func opens(t *testing.T, d *disk.Disk, name string, want ...string) *wal.Log {
	t.Helper()
	l, got, e := wal.Open(d, name)
	if l == nil || e != api.OK || !slices.Equal(texts(got), want) {
		t.Fatalf("Open(%q): %v, %.300q, %v, want %.300q", name, l != nil, texts(got), e, want)
	}
	mustLen(t, l, len(want))
	return l
}

func mustLen(t *testing.T, l *wal.Log, want int) {
	t.Helper()
	if n := l.Len(); n != want {
		t.Fatalf("Len: %d, want %d", n, want)
	}
}

// refuses holds that Open answers that error, and nothing beside it.
func refuses(t *testing.T, d *disk.Disk, name string, want api.Errno) {
	t.Helper()
	if l, got, e := wal.Open(d, name); l != nil || len(got) > 0 || e != want {
		t.Fatalf("Open(%q): %v, %q, %v, want %v", name, l != nil, texts(got), e, want)
	}
}

// lose lets the power of a disk go, whose files stay as they are.
func lose(t *testing.T, d *disk.Disk) {
	t.Helper()
	mustBe(t, api.OK, d.Fuse(0))
	mustBe(t, api.ErrLost, d.Append("~", nil))
}

// takes holds that what is done takes just so many deeds of a disk: it is done to one that is as d is.
func takes(t *testing.T, d *disk.Disk, deeds int, do func(d *disk.Disk)) {
	t.Helper()
	c := d.Clone()
	mustBe(t, api.OK, c.Fuse(deeds))
	do(c)
	if c.Lost() {
		t.Fatalf("lost within %d deeds", deeds)
	}
	mustBe(t, api.ErrLost, c.Append("~", nil))
}

// P6.2: the chapter's example, and a log that is opened again and again.
func TestOpen(t *testing.T) {
	d := newDisk(t, 1000)
	takes(t, d, 0, func(d *disk.Disk) { opens(t, d, "wal") })
	opens(t, d, "wal")
	has(t, d)
	for _, l := range [][]string{{""}, {"a"}, {"", "", ""}, {"a", "", "bc"}, {framed("x"), "\x00\x00\x00\x00\x00\x00\x00\x00"}, {long(300)}} {
		d := newDisk(t, 1000)
		lay(t, d, "wal", framed(l...), "")
		lay(t, d, "wal+", "c", "d")
		lay(t, d, "wa", "", framed("e"))
		takes(t, d, 0, func(d *disk.Disk) { opens(t, d, "wal", l...) })
		for range 3 {
			opens(t, d, "wal", l...)
			has(t, d, file("wa", "", framed("e")), file("wal", framed(l...), ""), file("wal+", "c", "d"))
		}
	}
}

// P6.2: what stands behind the records is cut off, there, by one deed.
func TestOpenCuts(t *testing.T) {
	whole := framed("abc")
	wrong := whole[:10] + "-"
	for _, l := range [][]string{{}, {""}, {"a", "", "bc"}, {long(300), "d"}} {
		all := framed(l...)
		for _, behind := range []string{"\x00", "x", whole[:1], whole[:7], whole[:8], whole[:10], wrong, wrong + whole, "x" + whole, strings.Repeat("\x00", 20)} {
			want := []string{file("wal", all, "")}
			if all == "" {
				want = nil
			}
			// Be it safe, or waiting, or in part.
			for safe := 0; safe <= len(all)+len(behind); safe += 1 + len(behind)/2 {
				d := newDisk(t, 1000)
				lay(t, d, "wal", (all + behind)[:safe], (all + behind)[safe:])
				takes(t, d, 1, func(d *disk.Disk) { opens(t, d, "wal", l...) })
				refusesFused(t, d)
				g := opens(t, d, "wal", l...)
				has(t, d, want...)
				mustBe(t, api.OK, g.Add([]byte("on")))
				opens(t, d, "wal", append(slices.Clone(l), "on")...)
			}
		}
	}
}

// refusesFused holds that a log whose bytes can't be cut off for want of power isn't opened, and stays as it is.
func refusesFused(t *testing.T, d *disk.Disk) {
	t.Helper()
	c := d.Clone()
	mustBe(t, api.OK, c.Fuse(0))
	refuses(t, c, "wal", api.ErrLost)
	if !c.Lost() || c.Used() != d.Used() || c.Safe("wal") != d.Safe("wal") {
		t.Fatal("not as it was")
	}
	refuses(t, c, "wal", api.ErrLost)
}

// P6.2: a name of 11 bytes at most that a file may have.
func TestOpenNames(t *testing.T) {
	for _, name := range []string{"a", "+", "!", "~", "wal", "abcdefghij", "abcdefghijk", "abcdefghij+", strings.Repeat("~", 11)} {
		d := newDisk(t, 1000)
		l := opens(t, d, name)
		mustBe(t, api.OK, l.Add(list("x", "y")...))
		has(t, d, file(name, framed("x", "y"), ""))
		mustBe(t, api.OK, l.Reset(list("z")...))
		has(t, d, file(name, framed("z"), ""))
		opens(t, d, name, "z")
	}
	tooLong := []string{"abcdefghijkl", "abcdefghijk+", "abcdefghijklm", "a b d e f g h", strings.Repeat("\x00", 12), strings.Repeat("x", 1000)}
	wrong := []string{"", " ", "a b", "\x00", "\x7f", "\x80", "é", "wal\n", "abcdefghij "}
	d := newDisk(t, 1000)
	lay(t, d, "abcdefghijkl", framed("x"), "")
	for _, name := range append(tooLong, wrong...) {
		refuses(t, d, name, api.ErrArg)
	}
	has(t, d, file("abcdefghijkl", framed("x"), ""))
	// Of a lost disk a name that is too long comes ahead of the loss, and the disk's own question of names behind it.
	lose(t, d)
	for _, name := range tooLong {
		refuses(t, d, name, api.ErrArg)
	}
	for _, name := range append(wrong, "wal", "abcdefghijk") {
		refuses(t, d, name, api.ErrLost)
	}
}

// P6.2: Add lets the records stand behind the others, safe, by one Append and one Sync.
func TestAdd(t *testing.T) {
	d := newDisk(t, 1<<18)
	lay(t, d, "wal+", "", "c")
	l := opens(t, d, "wal")
	want := []string{}
	for _, more := range [][]string{{"a"}, {}, {""}, {"b", "", "cd"}, {"", ""}, {long(api.MaxRecord)}, {}, {"e", long(api.MaxRecord), "f"}, {framed("g", "h")}} {
		deeds := 2
		if len(more) == 0 {
			deeds = 0
		}
		takes(t, d, deeds, func(d *disk.Disk) {
			mustBe(t, api.OK, opens(t, d, "wal", want...).Add(list(more...)...))
		})
		mustBe(t, api.OK, l.Add(list(more...)...))
		want = append(want, more...)
		mustLen(t, l, len(want))
		has(t, d, file("wal", framed(want...), ""), file("wal+", "", "c"))
		opens(t, d, "wal", want...)
	}
}

// P6.2: of no records Add answers OK and does nothing, of whatever disk, and makes no file.
func TestAddNothing(t *testing.T) {
	for _, l := range [][]string{{}, {"a", "b"}} {
		d := newDisk(t, 100)
		want := []string{}
		if len(l) > 0 {
			lay(t, d, "f", framed(l...), "")
			want = []string{file("f", framed(l...), "")}
		}
		g := opens(t, d, "f", l...)
		takes(t, d, 0, func(d *disk.Disk) { mustBe(t, api.OK, opens(t, d, "f", l...).Add()) })
		mustBe(t, api.OK, g.Add())
		mustBe(t, api.OK, g.Add([][]byte{}...))
		has(t, d, want...)
		lose(t, d)
		mustBe(t, api.OK, g.Add())
		mustLen(t, g, len(l))
		has(t, d, want...)
	}
}

// P6.2, R5, R6: one record that is too long, wherever it stands, comes ahead of all else, and nothing is done.
func TestTooLong(t *testing.T) {
	over := long(api.MaxRecord + 1)
	for _, records := range [][]string{{over}, {"a", over}, {over, "a"}, {"", over, "b"}, {over, over}, {"a", "b", "c", strings.Repeat("x", api.MaxRoom)}, {long(api.MaxRecord), over}} {
		for _, room := range []int{13, 10000, api.MaxRoom} {
			d := newDisk(t, room)
			lay(t, d, "f", framed("k"), "")
			lay(t, d, "f+", "12", "34")
			want := []string{file("f", framed("k"), ""), file("f+", "12", "34")}
			l := opens(t, d, "f", "k")
			mustBe(t, api.OK, d.Fuse(0))
			mustBe(t, api.ErrLong, l.Add(list(records...)...))
			mustBe(t, api.ErrLong, l.Reset(list(records...)...))
			if d.Lost() {
				t.Fatal("the power went")
			}
			mustLen(t, l, 1)
			has(t, d, want...)
			mustBe(t, api.ErrLost, d.Append("~", nil))
			mustBe(t, api.ErrLong, l.Add(list(records...)...))
			mustBe(t, api.ErrLong, l.Reset(list(records...)...))
			mustLen(t, l, 1)
			has(t, d, want...)
		}
	}
}

// P6.2: what the disk has no room for isn't added, none of it, and the log goes on.
func TestAddFull(t *testing.T) {
	more := []string{"ab", "", "cde"}
	need := len(framed(more...))
	for _, ahead := range [][]string{{}, {"k"}, {"k", "lm"}} {
		was := framed(ahead...)
		for left := range need + 3 {
			d := newDisk(t, len(was)+left+1)
			lay(t, d, "g", "", "-")
			lay(t, d, "f", "", was)
			l := opens(t, d, "f", ahead...)
			if left >= need {
				mustBe(t, api.OK, l.Add(list(more...)...))
				mustLen(t, l, len(ahead)+3)
				has(t, d, file("f", was+framed(more...), ""), file("g", "", "-"))
				continue
			}
			files := []string{file("f", "", was), file("g", "", "-")}
			if was == "" {
				files = files[1:]
			}
			// No room comes ahead of no power, and behind it nothing is synced.
			mustBe(t, api.OK, d.Fuse(0))
			mustBe(t, api.ErrFull, l.Add(list(more...)...))
			mustLen(t, l, len(ahead))
			has(t, d, files...)
			d.Restart(-1, -1)
			if left < 9 {
				mustBe(t, api.ErrFull, l.Add([]byte("n")))
				continue
			}
			mustBe(t, api.OK, l.Add([]byte("n")))
			mustLen(t, l, len(ahead)+1)
			opens(t, d, "f", append(slices.Clone(ahead), "n")...)
		}
	}
}

// P6.2: of a lost disk Add and Reset answer that, and nothing is changed.
func TestLost(t *testing.T) {
	d := newDisk(t, 100)
	lay(t, d, "f", framed("k"), "")
	lay(t, d, "f+", "1", "2")
	l := opens(t, d, "f", "k")
	lose(t, d)
	for range 2 {
		mustBe(t, api.ErrLost, l.Add([]byte("a")))
		mustBe(t, api.ErrLost, l.Add(list("a", strings.Repeat("b", 1000))...))
		mustBe(t, api.ErrLost, l.Reset())
		mustBe(t, api.ErrLost, l.Reset([]byte("a")))
		mustBe(t, api.ErrLost, l.Reset(list("a", strings.Repeat("b", 1000))...))
		refuses(t, d, "f", api.ErrLost)
		mustLen(t, l, 1)
		has(t, d, file("f", framed("k"), ""), file("f+", "1", "2"))
	}
}

// resets are logs, with what else there may be ahead of a Reset, and what it is of.
func resets() []struct {
	was, plus, now []string
	deeds          int
} {
	type kind = struct {
		was, plus, now []string
		deeds          int
	}
	l := []kind{}
	for _, was := range [][]string{{}, {"a"}, {"b", "", "cd"}} {
		for _, plus := range [][]string{{"", ""}, {"12", ""}, {"", "34"}, {"1", "2"}, {framed("x"), ""}, {framed("x"), framed("y")}} {
			for _, now := range [][]string{{}, {""}, {"e"}, {"fg", "", "hijkl", "m"}, was} {
				deeds := 3
				if len(now) == 0 {
					deeds = min(1, len(was))
				}
				if plus[0]+plus[1] != "" {
					deeds++
				}
				l = append(l, kind{was, plus, now, deeds})
			}
		}
	}
	return l
}

// P6.2: behind a Reset there are those records alone, safe, and no other file of its; by just the deeds that the chapter names.
func TestReset(t *testing.T) {
	for _, c := range resets() {
		for _, waiting := range []bool{false, true} {
			d := newDisk(t, 1000)
			lay(t, d, "e", "5", "6")
			if waiting {
				lay(t, d, "f", "", framed(c.was...))
			} else {
				lay(t, d, "f", framed(c.was...), "")
			}
			lay(t, d, "f+", c.plus[0], c.plus[1])
			want := []string{file("e", "5", "6")}
			if len(c.now) > 0 {
				want = append(want, file("f", framed(c.now...), ""))
			}
			l := opens(t, d, "f", c.was...)
			mustBe(t, api.OK, d.Fuse(c.deeds))
			mustBe(t, api.OK, l.Reset(list(c.now...)...))
			mustLen(t, l, len(c.now))
			has(t, d, want...)
			mustBe(t, api.ErrLost, d.Append("e", nil))
			d.Restart(-1)
			opens(t, d, "f", c.now...)
			mustBe(t, api.OK, l.Add(list("on", "")...))
			mustLen(t, l, len(c.now)+2)
			l = opens(t, d, "f", append(slices.Clone(c.now), "on", "")...)
			mustBe(t, api.OK, l.Reset())
			mustLen(t, l, 0)
			has(t, d, file("e", "56", ""))
		}
	}
}

// P6.2: records of the greatest size, and as many bytes as there may be on any disk.
func TestMost(t *testing.T) {
	d := newDisk(t, api.MaxRoom)
	most := long(api.MaxRecord)
	l := opens(t, d, "f")
	mustBe(t, api.OK, l.Add(list(most, "", most)...))
	mustBe(t, api.OK, l.Reset(list(most, "a")...))
	opens(t, d, "f", most, "a")
	n := 0
	for n < 100 && l.Add([]byte(most)) == api.OK {
		n++
	}
	if want := (api.MaxRoom - len(framed(most, "a"))) / len(framed(most)); n != want {
		t.Errorf("%d records more, want %d", n, want)
	}
	mustLen(t, l, n+2)
	rest := long(api.MaxRoom - d.Used() - 8)
	mustBe(t, api.ErrFull, l.Add([]byte(rest+"x")))
	mustBe(t, api.OK, l.Add([]byte(rest)))
	opens(t, d, "f", slices.Concat([]string{most, "a"}, slices.Repeat([]string{most}, n), []string{rest})...)
	if l.Add(slices.Repeat(list(most), 100)...) != api.ErrFull || l.Reset(slices.Repeat(list(most), 100)...) != api.ErrFull {
		t.Error("room for all of them")
	}
	mustLen(t, l, n+3)
}

// P6.2: a Reset that the disk has no room for, beside all that the log has, leaves the log; but what stood in its way is gone.
func TestResetFull(t *testing.T) {
	now := []string{"ab", "", "cde"}
	need := len(framed(now...))
	for _, was := range [][]string{{}, {"k"}, {"k", "lm"}} {
		for _, plus := range []string{"", "1", strings.Repeat("2", need-1), strings.Repeat("3", need)} {
			for left := range need + 2 {
				d := newDisk(t, len(framed(was...))+len(plus)+left+1)
				lay(t, d, "f", "", framed(was...))
				lay(t, d, "f+", "", plus)
				lay(t, d, "g", "", "-")
				l := opens(t, d, "f", was...)
				// The room of what stood there is free by then.
				if left+len(plus) >= need {
					mustBe(t, api.OK, l.Reset(list(now...)...))
					mustLen(t, l, len(now))
					has(t, d, file("f", framed(now...), ""), file("g", "", "-"))
					continue
				}
				deeds, files := 0, []string{file("f", "", framed(was...)), file("g", "", "-")}
				if plus != "" {
					deeds = 1
				}
				if len(was) == 0 {
					files = files[1:]
				}
				// No room comes ahead of no power, and behind it nothing else is done.
				mustBe(t, api.OK, d.Fuse(deeds))
				mustBe(t, api.ErrFull, l.Reset(list(now...)...))
				if d.Lost() {
					t.Fatal("the power went")
				}
				mustLen(t, l, len(was))
				has(t, d, files...)
				mustBe(t, api.ErrLost, d.Append("g", nil))
				d.Restart(-1, -1)
				opens(t, d, "f", was...)
			}
		}
	}
}

// P6.2: where a file of that other name can't be removed for want of power, that comes ahead of no room.
func TestResetFullAndLost(t *testing.T) {
	d := newDisk(t, 20)
	lay(t, d, "f", framed("k"), "")
	lay(t, d, "f+", "1", "")
	l := opens(t, d, "f", "k")
	mustBe(t, api.OK, d.Fuse(0))
	mustBe(t, api.ErrLost, l.Reset([]byte(long(100))))
	has(t, d, file("f", framed("k"), ""), file("f+", "1", ""))
}

// Logs of other names on one disk are not each other's.
func TestLogsBesideEachOther(t *testing.T) {
	d := newDisk(t, 1000)
	names := []string{"a", "b", "aa", "b!"}
	logs, want := map[string]*wal.Log{}, map[string][]string{}
	for _, name := range names {
		logs[name], want[name] = opens(t, d, name), []string{}
	}
	for i := range 40 {
		name, text := names[i%4], strconv.Itoa(i)
		switch {
		case i%11 == 10:
			mustBe(t, api.OK, logs[name].Reset(list(text, "")...))
			want[name] = []string{text, ""}
		case i%13 == 12:
			mustBe(t, api.OK, logs[name].Reset())
			want[name] = []string{}
		default:
			mustBe(t, api.OK, logs[name].Add([]byte(text)))
			want[name] = append(want[name], text)
		}
		for _, name := range names {
			mustLen(t, logs[name], len(want[name]))
			opens(t, d, name, want[name]...)
		}
	}
}

// R3: records that are handed in are neither kept nor changed, nor is the list of them.
func TestRecordsHandedIn(t *testing.T) {
	d := newDisk(t, 1000)
	l := opens(t, d, "f")
	for _, do := range []func(records ...[]byte) api.Errno{l.Add, l.Reset} {
		room := []byte("abcdefgh")
		records := [][]byte{room[:2], room[4:6], nil, {}, []byte("spare")}
		mustBe(t, api.OK, do(records[:4]...))
		if string(room) != "abcdefgh" || records[2] != nil || !slices.Equal(texts(records), []string{"ab", "ef", "", "", "spare"}) {
			t.Errorf("%q, %q behind it", room, records)
		}
		spoil(room)
		opens(t, d, "f", "ab", "ef", "", "")
		mustBe(t, api.OK, l.Reset())
	}
	// A record may be handed in twice in one call.
	b := []byte("twice")
	mustBe(t, api.OK, l.Add(b, b))
	mustBe(t, api.OK, l.Add(b))
	opens(t, d, "f", "twice", "twice", "twice")
}

// R3: records that Open answers are new memory, spare room too.
func TestRecordsAnswered(t *testing.T) {
	d := newDisk(t, 1000)
	want := []string{"ab", "", "cdef", long(100)}
	lay(t, d, "f", framed(want...), "xyz")
	l, x, _ := wal.Open(d, "f")
	_, y, _ := wal.Open(d, "f")
	spoil(x[2])
	spoil(x[0])
	spoil(x[1])
	if string(x[3]) != want[3] {
		t.Error("two records share memory")
	}
	for i := range x[:cap(x)] {
		spoil(x[:cap(x)][i])
		x[:cap(x)][i] = nil
	}
	if !slices.Equal(texts(y), want) {
		t.Error("two answers share memory")
	}
	mustLen(t, l, 4)
	opens(t, d, "f", want...)
	mustBe(t, api.OK, l.Add([]byte("g")))
	opens(t, d, "f", append(want, "g")...)
}

// R1: a nil log, and a nil disk, answer ErrArg or zero, whatever else is wrong.
func TestNil(t *testing.T) {
	for _, name := range []string{"f", "", "a b", "abcdefghijk", "abcdefghijkl"} {
		refuses(t, nil, name, api.ErrArg)
	}
	var l *wal.Log
	over := make([]byte, api.MaxRecord+1)
	for _, records := range [][][]byte{nil, {}, {nil}, list("a"), list("a", "b"), {over}, {nil, over}} {
		if e := l.Add(records...); e != api.ErrArg {
			t.Errorf("Add of nil: %v", e)
		}
		if e := l.Reset(records...); e != api.ErrArg {
			t.Errorf("Reset of nil: %v", e)
		}
	}
	mustLen(t, l, 0)
}
