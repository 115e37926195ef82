package vault_test

import (
	"slices"
	"testing"

	"decamp/api"
	"decamp/disk"
	"decamp/vault"
)

// deed is something that is done to a disk.
type deed func(d *disk.Disk) api.Errno

// removes is a file's removal, where it is there.
func removes(name string) deed {
	return func(d *disk.Disk) api.Errno {
		if !slices.Contains(d.Names(), name) {
			return api.OK
		}
		return d.Remove(name)
	}
}

// writes are bytes that are written behind a file's others, and made safe.
func writes(name, b string) []deed {
	return []deed{
		func(d *disk.Disk) api.Errno { return d.Append(name, []byte(b)) },
		func(d *disk.Disk) api.Errno { return d.Sync(name) },
	}
}

// replaces are those by which a file has these bytes alone, at one stroke.
func replaces(name, b string) []deed {
	rename := func(d *disk.Disk) api.Errno { return d.Rename(name+"+", name) }
	return slices.Concat([]deed{removes(name + "+")}, writes(name+"+", b), []deed{rename})
}

// resets are those of a log's Reset to these records.
func resets(records ...string) []deed {
	return replaces("wal", framed(records...))
}

// adds are those of an Add: none of no records.
func adds(records ...string) []deed {
	if len(records) == 0 {
		return nil
	}
	return writes("wal", framed(records...))
}

// saves are those of a Save, of a vault that saved last what is hard in was.
func saves(was, h api.Hard, l []api.Entry) []deed {
	if h == was {
		return adds(recsOf(l...)...)
	}
	return adds(recs(h, l...)...)
}

// keeps are those of a Keep.
func keeps(was, h api.Hard, s api.Snap, l []api.Entry) []deed {
	return slices.Concat(saves(was, h, nil), replaces("snap", framedSnap(s)), resets(recs(h, l...)...))
}

// follow does deeds, till one answers an error.
func follow(d *disk.Disk, deeds []deed) api.Errno {
	for _, do := range deeds {
		if e := do(d); e != api.OK {
			return e
		}
	}
	return api.OK
}

// call is one that is done to a vault.
type call struct {
	name string
	// do answers the call's error.
	do func(v *vault.Vault) api.Errno
	// deeds are those by which it is to be done.
	deeds []deed
	// may are all that a vault may have, if the power goes while it is under way; done is what it has if it doesn't.
	may  []state
	done state
}

// saveCall is a Save to a vault that has that.
func saveCall(was state, h api.Hard, l []api.Entry) call {
	hard := was
	hard.h = h
	c := call{
		name:  "Save",
		do:    func(v *vault.Vault) api.Errno { return v.Save(h, l) },
		deeds: saves(was.h, h, l),
		may:   []state{was, hard},
		done:  hard,
	}
	for _, x := range l {
		c.done.l = append(ahead(c.done.l, x.Index), x)
		c.may = append(c.may, c.done)
	}
	return c
}

// ahead are the entries below an index, in a list of their own.
func ahead(l []api.Entry, index int64) []api.Entry {
	return slices.DeleteFunc(slices.Clone(l), func(x api.Entry) bool { return x.Index >= index })
}

// keepCall is a Keep to a vault that has that.
func keepCall(was state, h api.Hard, s api.Snap, l []api.Entry) call {
	hard := was
	hard.h = h
	return call{
		name:  "Keep",
		do:    func(v *vault.Vault) api.Errno { return v.Keep(h, s, l) },
		deeds: keeps(was.h, h, s, l),
		may:   []state{was, hard, {h, s, above(was, s)}},
		done:  state{h, s, l},
	}
}

// above are the entries that a vault has above a snap, if they go with it.
func above(was state, s api.Snap) []api.Entry {
	for n, x := range was.l {
		if x.Index == s.Index && x.Term == s.Term {
			return was.l[n+1:]
		}
	}
	if was.s.Index == s.Index {
		return was.l
	}
	return nil
}

// does holds that a call does just its deeds, in their order, up to the first one that answers an error, wherever the power goes; it answers how many there are.
func (c call) does(t *testing.T, d *disk.Disk, has state) int {
	t.Helper()
	for fuse := 0; ; fuse++ {
		want, got := d.Clone(), d.Clone()
		v := opens(t, got, has)
		mustBe(t, api.OK, want.Fuse(fuse))
		mustBe(t, api.OK, got.Fuse(fuse))
		wantErr, gotErr := follow(want, c.deeds), c.do(v)
		wantFiles, gotFiles := files(t, want), files(t, got)
		if gotErr != wantErr || got.Lost() != want.Lost() || !slices.Equal(gotFiles, wantFiles) {
			t.Fatalf("%s to %s, of %d deeds: %v, %.400q; want %v, %.400q", c.name, has.text(), fuse, gotErr, gotFiles, wantErr, wantFiles)
		}
		if !want.Lost() {
			// No deed more, be it one that changes nothing.
			mustBe(t, api.ErrLost, got.Append("~", nil))
			return fuse
		}
	}
}
