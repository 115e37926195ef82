package vault_test

import (
	"slices"
	"strings"
	"testing"

	"decamp/api"
	"decamp/disk"
)

// refusesAsIs holds that Open answers that error, by no deed at all, and leaves the disk as it is.
func refusesAsIs(t *testing.T, d *disk.Disk, want api.Errno) {
	t.Helper()
	was := files(t, d)
	takes(t, d, 0, func(d *disk.Disk) { refuses(t, d, want) })
	refuses(t, d, want)
	has(t, d, was...)
}

// P10.1: a lost disk's error, whatever lies on it.
func TestOpenLost(t *testing.T) {
	for _, l := range [][2]string{{"", ""}, {framedSnap(snapAt(1, 1)), framed(recs(unborn)...)}, {"wrong", "wrong"}} {
		d := newDisk(t, 1000)
		lay(t, d, "snap", l[0], "")
		lay(t, d, "wal", l[1], "")
		lose(t, d)
		was := files(t, d)
		refuses(t, d, api.ErrLost)
		has(t, d, was...)
	}
}

// P10.1: a snap that is right, to the greatest one, safe or waiting, without a log and with one; nothing is done to the disk.
func TestOpenSnap(t *testing.T) {
	h := api.Hard{Term: top, Vote: 2}
	for _, s := range []api.Snap{
		{Index: 1, Term: 1},
		{Index: 1, Term: 1, Data: []byte{0}},
		{Index: 5, Term: 2, Data: []byte("abc")},
		{Index: 2, Term: top, Data: []byte("abc")},
		{Index: top, Term: 1, Data: []byte("abc")},
		{Index: top, Term: top, Data: long(whole)},
	} {
		for _, waiting := range []bool{false, true} {
			d := newDisk(t, api.MaxRoom)
			if waiting {
				lay(t, d, "snap", "", framedSnap(s))
			} else {
				lay(t, d, "snap", framedSnap(s), "")
			}
			was := files(t, d)
			takes(t, d, 0, func(d *disk.Disk) { opens(t, d, state{h: unborn, s: s}) })
			opens(t, d, state{h: unborn, s: s})
			has(t, d, was...)
			lay(t, d, "wal", framed(recs(h)...), "")
			takes(t, d, 0, func(d *disk.Disk) { opens(t, d, state{h: h, s: s}) })
			if s.Index < top {
				x := one(s.Index+1, top)
				lay(t, d, "wal", framed(recsOf(x)...), "")
				takes(t, d, 0, func(d *disk.Disk) { opens(t, d, state{h, s, []api.Entry{x}}) })
			}
		}
	}
}

// P10.1: of no bytes there is no file, and so no snap.
func TestOpenNoBytes(t *testing.T) {
	d := newDisk(t, 1000)
	mustBe(t, api.OK, d.Append("snap", nil))
	mustBe(t, api.OK, d.Append("wal", nil))
	opens(t, d, state{h: unborn})
}

// wrongSnaps are what the file of a snap may not have.
func wrongSnaps() []string {
	right := placed(5, 2, "abc")
	l := []string{
		"x", "\x00", strings.Repeat("\x00", 8), strings.Repeat("\x00", 28),
		// Right, but for its frame.
		right,
		// Frames of what isn't a snap.
		framed(""), framed("x"), framed(hardRec(1, 1)), framed(entryRec(one(1, 1))),
		// The zero snap, with Data too.
		framed(placed(0, 0, "")), framed(placed(0, 0, "x")),
		// Snaps that aren't right.
		framed(placed(0, 1, "")), framed(placed(1, 0, "")), framed(placed(-1, 1, "")), framed(placed(1, -1, "")), framed(placed(-1, -1, "")),
		framed(placed(0, -1, "")), framed(placed(top+1, 1, "")), framed(placed(1, top+1, "")), framed(placed(1<<62, 1<<62, "")), framed(placed(-1<<63, 1, "")),
		framed(placed(1, 1, string(long(whole+1)))), framed(placed(top, top, string(long(59980)))),
		// Of more bytes than a frame has.
		framed(placed(1, 1, string(long(59981)))), framed(placed(1, 1, string(long(100000)))),
		// Bytes behind the snap, within the frame, and a length that lies.
		framed(right + "\x00"), framed(right + "x"), framed(right + right), framed(right[:19] + "\x04abc"), framed(right[:19] + "\x02abc"), framed(right[:16] + "\xff\xff\xff\xffabc"),
		// Bytes, and frames, behind the frame or ahead of it.
		framed(right) + "\x00", framed(right) + "x", "\x00" + framed(right), framed(right) + framed(right), framed(right, ""), framed("", right), framed(right, "x"), framed(placed(4, 1, "")) + framed(right), framed(right) + framed(right)[:20],
	}
	for n := range len(right) {
		l = append(l, framed(right[:n]))
	}
	all := framed(right)
	for n := 1; n < len(all); n++ {
		l = append(l, all[:n])
	}
	for n := range len(all) {
		for turn := 1; turn < 256; turn++ {
			b := []byte(all)
			b[n] ^= byte(turn)
			l = append(l, string(b))
		}
	}
	return l
}

// P10.1: a snap that isn't just one frame of a right one. Its error comes ahead of all of the log's, and the log isn't cut then.
func TestOpenWrongSnap(t *testing.T) {
	for _, b := range wrongSnaps() {
		for _, log := range []string{"", framed(recs(api.Hard{Term: 2, Vote: 1}, run(6, 2)...)...), framed(recs(unborn)...) + "torn", framed("wrong")} {
			d := newDisk(t, api.MaxRoom)
			lay(t, d, "snap", b, "")
			lay(t, d, "wal", log, "")
			was := files(t, d)
			mustBe(t, api.OK, d.Fuse(0))
			refuses(t, d, api.ErrForm)
			has(t, d, was...)
			mustBe(t, api.ErrLost, d.Append("~", nil))
		}
	}
}

// P10.1: what stands behind the log's frames is cut off, as layer 6 does it, and the error of that comes ahead of a record's.
func TestOpenCuts(t *testing.T) {
	h := api.Hard{Term: 2, Vote: 1}
	right := framed(recs(h, run(1, 1, 2)...)...)
	more := framed(recs(api.Hard{Term: 9, Vote: 0})...)
	for n := 1; n < len(more); n++ {
		d := newDisk(t, 1000)
		lay(t, d, "wal", right+more[:n/2], more[n/2:n])
		was := files(t, d)
		mustBe(t, api.OK, d.Fuse(0))
		refuses(t, d, api.ErrLost)
		has(t, d, was...)
		d.Restart(-1)
		takes(t, d, 1, func(d *disk.Disk) { opens(t, d, state{h: h, l: run(1, 1, 2)}) })
		opens(t, d, state{h: h, l: run(1, 1, 2)})
		has(t, d, file("wal", right, ""))
	}
	for _, bad := range wrongRecords() {
		d := newDisk(t, api.MaxRoom)
		lay(t, d, "wal", framed(bad)+"torn", "")
		mustBe(t, api.OK, d.Fuse(0))
		refuses(t, d, api.ErrLost)
		d.Restart()
		refuses(t, d, api.ErrForm)
	}
	// Whole frames are no frames for a wrong sum, and are cut off: they can't be wrong records.
	d := newDisk(t, 1000)
	broken := []byte(framed("wrong"))
	broken[5] ^= 1
	lay(t, d, "wal", right+string(broken), "")
	opens(t, d, state{h: h, l: run(1, 1, 2)})
	has(t, d, file("wal", right, ""))
}

// wrongRecords are records that a vault's log may not have, whatever stands around them.
func wrongRecords() []string {
	hard, x := hardRec(1, 0), entryRec(one(1, 1))
	l := []string{
		"", "\x00", "\x01", "\x02", "\x03", "\xff", "x",
		// Of another kind, or of the other one's.
		"\x00" + hard[1:], "\x03" + hard[1:], "\x81" + hard[1:], "\x02" + hard[1:], "\x00" + x[1:], "\x03" + x[1:], "\x82" + x[1:], "\x01" + x[1:], hard[1:], x[1:],
		// Bytes behind it.
		hard + "\x00", hard + "x", hard + hard, hard + x, x + "\x00", x + "x", x + x, x + hard,
		// What isn't right.
		hardRec(-1, 0), hardRec(top+1, 0), hardRec(1<<62, 0), hardRec(-1<<63, -1), hardRec(1, -2), hardRec(1, 3), hardRec(1, 1<<32), hardRec(1, 1<<32-1), hardRec(1, 1<<32+1), hardRec(1, -1<<63), hardRec(1, -1<<32),
		"\x02" + placed(0, 0, ""), "\x02" + placed(0, 1, ""), "\x02" + placed(1, 0, ""), "\x02" + placed(-1, 1, ""), "\x02" + placed(1, -1, ""), "\x02" + placed(top+1, 1, ""), "\x02" + placed(1, top+1, ""),
		"\x02" + placed(1, 1, string(long(most+1))), "\x02" + placed(1, 1, string(long(whole))), "\x02" + placed(1<<63-1, 1, ""), "\x02" + placed(-1<<63, 1, ""),
		// Lengths that lie.
		x[:20] + "\x02" + x[21:], x[:20] + "\x04" + x[21:], x[:17] + "\xff\xff\xff\xff" + x[21:],
	}
	for n := range len(hard) {
		l = append(l, hard[:n])
	}
	for n := range len(x) {
		l = append(l, x[:n])
	}
	return l
}

// P10.1: one wrong record, wherever it stands, and whether or not what is there without it is of any worth.
func TestOpenWrongRecord(t *testing.T) {
	hard := hardRec(2, 1)
	for _, bad := range wrongRecords() {
		for _, s := range []api.Snap{{}, snapAt(1, 1), snapAt(9, 1)} {
			for _, l := range [][]string{{bad}, {hard, bad}, {bad, hard}, {hard, entryRec(one(1, 1)), bad}, {entryRec(one(1, 1)), bad, entryRec(one(2, 1))}, {bad, bad}} {
				d := newDisk(t, api.MaxRoom)
				if s.Index > 0 {
					lay(t, d, "snap", framedSnap(s), "")
				}
				lay(t, d, "wal", framed(l...), "")
				refusesAsIs(t, d, api.ErrForm)
			}
		}
	}
}

// P10.1: what is hard is the last record's, right to its edges.
func TestOpenHard(t *testing.T) {
	for _, l := range [][]api.Hard{
		{unborn},
		{{Term: 0, Vote: 0}},
		{{Term: top, Vote: 2}},
		{{Term: 1, Vote: 2}, {Term: 2, Vote: -1}},
		{{Term: 5, Vote: 2}, {Term: 3, Vote: 1}},
		{{Term: 5, Vote: 2}, unborn},
		{{Term: 5, Vote: 2}, {Term: 6, Vote: 2}, {Term: 5, Vote: 2}},
	} {
		want := state{h: l[len(l)-1]}
		d, mixed := newDisk(t, 1000), newDisk(t, 1000)
		for n, h := range l {
			lay(t, d, "wal", framed(recs(h)...), "")
			lay(t, mixed, "wal", framed(recs(h, one(int64(n)+1, 1))...), "")
			want.l = append(want.l, one(int64(n)+1, 1))
		}
		takes(t, d, 0, func(d *disk.Disk) { opens(t, d, state{h: want.h}) })
		takes(t, mixed, 0, func(d *disk.Disk) { opens(t, d, want) })
	}
}

// fate is what becomes of a log that Open finds.
type fate int

const (
	stays fate = iota
	wrong
	reset
)

// found is what Open finds, and what becomes of it.
type found struct {
	s    api.Snap
	told []api.Entry
	fate fate
	left []api.Entry
}

// plain are entries that stand one behind the other, and behind the snap.
func plain() map[string]found {
	return map[string]found{
		"one":                              {api.Snap{}, run(1, 1), stays, run(1, 1)},
		"some, of rising terms":            {api.Snap{}, run(1, 1, 1, 4, 7), stays, run(1, 1, 1, 4, 7)},
		"the greatest":                     {api.Snap{}, []api.Entry{{Index: 1, Term: top, Data: long(most)}}, stays, []api.Entry{{Index: 1, Term: top, Data: long(most)}}},
		"none":                             {snapAt(3, 2), nil, stays, nil},
		"behind the snap":                  {snapAt(3, 2), run(4, 2, 2, 3), stays, run(4, 2, 2, 3)},
		"behind the snap, of a later term": {snapAt(3, 2), run(4, 5), stays, run(4, 5)},
		"of the greatest index":            {snapAt(top-1, 2), run(top, 2), stays, run(top, 2)},
	}
}

// gaps are such as leave a gap behind those ahead of them, be it filled later or not.
func gaps() map[string]found {
	return map[string]found{
		"a gap":                       {api.Snap{}, append(run(1, 1, 1), run(4, 1)...), wrong, nil},
		"a great gap":                 {api.Snap{}, append(run(1, 1), run(top, 1)...), wrong, nil},
		"a gap at the end":            {snapAt(3, 1), append(run(4, 1, 1), run(7, 1)...), wrong, nil},
		"a gap below the snap":        {snapAt(9, 1), append(run(1, 1, 1), run(4, 1)...), wrong, nil},
		"a gap that is filled later":  {api.Snap{}, slices.Concat(run(1, 1), run(3, 1), run(2, 1, 1)), wrong, nil},
		"a gap behind a replaced one": {api.Snap{}, slices.Concat(run(1, 1, 1, 1), run(2, 2), run(4, 2)), wrong, nil},
		"a gap, replaced as a whole":  {api.Snap{}, slices.Concat(run(1, 1), run(3, 1), run(1, 1)), wrong, nil},
	}
}

// falling are such as have a term below that of the one ahead, by then.
func falling() map[string]found {
	return map[string]found{
		"a falling term":                     {api.Snap{}, run(1, 2, 1), wrong, nil},
		"a falling term later":               {api.Snap{}, run(1, 2, 2, 5, 4), wrong, nil},
		"a falling term below the snap":      {snapAt(3, 1), run(1, 2, 1, 1, 1), wrong, nil},
		"a falling term, replaced":           {api.Snap{}, append(run(1, 2, 1), run(1, 1)...), wrong, nil},
		"below a replaced one's":             {api.Snap{}, append(run(1, 1, 2, 3), run(3, 2)...), stays, run(1, 1, 2, 2)},
		"below the one ahead of a place":     {api.Snap{}, append(run(1, 1, 2, 3), run(3, 1)...), wrong, nil},
		"below one that was replaced, later": {api.Snap{}, slices.Concat(run(1, 1, 3), run(2, 2), run(3, 2)), stays, run(1, 1, 2, 2)},
	}
}

// places are such as take the place of others, of which none stays from there on.
func places() map[string]found {
	return map[string]found{
		"the last one's place":                  {api.Snap{}, append(run(1, 1, 1, 1), run(3, 2)...), stays, run(1, 1, 1, 2)},
		"its own place":                         {api.Snap{}, append(run(1, 1, 1, 1), run(3, 1)...), stays, run(1, 1, 1, 1)},
		"a place in between":                    {api.Snap{}, append(run(1, 1, 1, 1, 1), run(2, 1)...), stays, run(1, 1, 1)},
		"a place in between, and more":          {api.Snap{}, append(run(1, 1, 1, 1, 1), run(2, 2, 2)...), stays, run(1, 1, 2, 2)},
		"the first one's place":                 {api.Snap{}, append(run(1, 1, 1, 1), run(1, 2)...), stays, run(1, 2)},
		"the first one's place, of less a term": {api.Snap{}, append(run(1, 3, 3, 3), run(1, 2)...), stays, run(1, 2)},
		"a place ahead of the first one":        {snapAt(3, 1), append(run(5, 1, 1, 1), run(4, 1)...), stays, run(4, 1)},
		"far ahead of the first one":            {api.Snap{}, append(run(50, 3, 3), run(1, 1, 2)...), stays, run(1, 1, 2)},
		"all behind a place, again":             {api.Snap{}, slices.Concat(run(1, 1, 1, 1, 1), run(3, 1), run(4, 1, 1)), stays, run(1, 1, 1, 1, 1, 1)},
	}
}

// belowSnap are such as stand right behind a snap, but aren't a run behind it.
func belowSnap() map[string]found {
	return map[string]found{
		"of a term below the snap's":         {snapAt(3, 2), run(4, 1), wrong, nil},
		"of terms below the snap's at first": {snapAt(3, 2), run(4, 1, 2, 3), wrong, nil},
		"replaced by one below the snap's":   {snapAt(3, 2), append(run(4, 2, 2), run(4, 1)...), wrong, nil},
		"below the snap's, but replaced":     {snapAt(3, 2), append(run(4, 1, 1), run(4, 2)...), stays, run(4, 2)},
	}
}

// upToSnap are such as are gone by the snap, some of them or all.
func upToSnap() map[string]found {
	return map[string]found{
		"up to the snap, with its own":                 {snapAt(3, 2), run(1, 1, 1, 2, 2, 3), reset, run(4, 2, 3)},
		"the snap's own first":                         {snapAt(3, 2), run(3, 2, 2, 3), reset, run(4, 2, 3)},
		"the snap's own last":                          {snapAt(3, 2), run(1, 1, 1, 2), reset, nil},
		"the snap's own alone":                         {snapAt(3, 2), run(3, 2), reset, nil},
		"the greatest one's own":                       {snapAt(top, 2), run(top-1, 1, 2), reset, nil},
		"of the snap's index, but a lower term":        {snapAt(3, 2), run(1, 1, 1, 1, 2, 3), reset, nil},
		"of the snap's index, but a greater term":      {snapAt(3, 2), run(1, 1, 1, 3, 3, 3), reset, nil},
		"of the snap's index first, but a lower term":  {snapAt(3, 2), run(3, 1, 2), reset, nil},
		"of the snap's index first, but another term":  {snapAt(3, 2), run(3, 3, 3), reset, nil},
		"of the snap's term, but at another index":     {snapAt(3, 2), run(1, 2, 2), reset, nil},
		"all below the snap":                           {snapAt(9, 2), run(1, 1, 1, 2), reset, nil},
		"just below the snap":                          {snapAt(3, 2), run(2, 2), reset, nil},
		"a gap behind the snap":                        {snapAt(3, 2), run(5, 2, 2), reset, nil},
		"a gap behind the snap, of a lower term":       {snapAt(3, 2), run(5, 1, 1), reset, nil},
		"a great gap behind the snap":                  {snapAt(3, 2), run(top, 2), reset, nil},
		"a gap behind no snap":                         {api.Snap{}, run(2, 1, 1), reset, nil},
		"the snap's own, replaced by another one":      {snapAt(3, 2), append(run(1, 1, 1, 2, 2), run(3, 3, 3)...), reset, nil},
		"the snap's own, in another one's place":       {snapAt(3, 2), append(run(1, 1, 1, 1, 1), run(3, 2, 4)...), reset, run(4, 4)},
		"the snap's own, gone by one ahead":            {snapAt(3, 2), append(run(1, 1, 1, 2, 2), run(2, 1)...), reset, nil},
		"right behind the snap, and then one below":    {snapAt(3, 2), append(run(4, 2, 2), run(2, 2, 2, 2)...), reset, run(4, 2)},
		"right behind the snap, and then one far away": {snapAt(3, 2), slices.Concat(run(4, 2), run(2, 1)), reset, nil},
	}
}

// P10.1: entries, one by one, and then what is left of them by the snap.
func TestOpenEntries(t *testing.T) {
	for _, l := range []map[string]found{plain(), gaps(), falling(), places(), belowSnap(), upToSnap()} {
		for name, c := range l {
			t.Run(name, c.opened)
		}
	}
}

// opened holds it of one.
func (c found) opened(t *testing.T) {
	h := api.Hard{Term: 9, Vote: 0}
	want := state{h, c.s, c.left}
	d := newDisk(t, api.MaxRoom)
	lies := []string{}
	if c.s.Index > 0 {
		lay(t, d, "snap", framedSnap(c.s), "")
		lies = files(t, d)
	}
	lay(t, d, "wal", framed(recs(h, c.told...)...), "")
	switch c.fate {
	case wrong:
		refusesAsIs(t, d, api.ErrForm)
		return
	case stays:
		takes(t, d, 0, func(d *disk.Disk) { opens(t, d, want) })
		lies = files(t, d)
	case reset:
		takes(t, d, 3, func(d *disk.Disk) { opens(t, d, want) })
		lies = append(lies, file("wal", framed(recs(h, c.left...)...), ""))
	}
	opens(t, d, want)
	has(t, d, lies...)
	takes(t, d, 0, func(d *disk.Disk) { opens(t, d, want) })
}

// P10.1: the log is Reset to what is hard even where no record told of it, and of many only the last one stays.
func TestOpenResetHard(t *testing.T) {
	s := snapAt(3, 2)
	late := api.Hard{Term: 4, Vote: 1}
	for _, c := range []struct {
		records []string
		h       api.Hard
		left    []api.Entry
	}{
		{recsOf(run(3, 2, 2)...), unborn, run(4, 2)},
		{recsOf(run(1, 1)...), unborn, nil},
		{slices.Concat(recs(unborn), recsOf(run(1, 1)...)), unborn, nil},
		{slices.Concat(recs(api.Hard{Term: 2, Vote: 0}), recsOf(run(3, 2)...), recs(late), recsOf(run(4, 2, 3)...)), late, run(4, 2, 3)},
		{slices.Concat(recsOf(run(3, 2, 3)...), recs(api.Hard{Term: 3, Vote: 0}), recs(late)), late, run(4, 3)},
	} {
		d := newDisk(t, 1000)
		lay(t, d, "snap", framedSnap(s), "")
		lay(t, d, "wal", framed(c.records...), "")
		v := opens(t, d, state{c.h, s, c.left})
		has(t, d, file("snap", framedSnap(s), ""), file("wal", framed(recs(c.h, c.left...)...), ""))
		// What is hard counts as saved, and goes on so.
		mustBe(t, api.OK, v.Save(c.h, nil))
		has(t, d, file("snap", framedSnap(s), ""), file("wal", framed(recs(c.h, c.left...)...), ""))
		opens(t, d, state{c.h, s, c.left})
	}
}
