package index

import (
	"cmp"
	"slices"
	"strings"

	"decamp/api"
	"decamp/hist"
	"decamp/order"
)

// Live tells what the key is, if it is there.
func (x Index) Live(key string) (api.Ver, bool) {
	h, _ := x.keys.Get(key)
	return hist.Live(h)
}

// At tells the keys of the range that were there at rev, rising, most of them at most, and how many there were in all.
func (x Index) At(from, end string, rev int64, most int) ([]api.Item, int64) {
	l, count := []api.Item{}, int64(0)
	for _, p := range x.within(from, end) {
		v, ok := hist.At(p.V, rev)
		if !ok {
			continue
		}
		if count < int64(most) {
			l = append(l, api.Item{Key: p.Key, V: v})
		}
		count++
	}
	return l, count
}

// Behind tells the keys with this prefix, above after, that were there at rev, rising, most of them at most, and whether there are no more.
func (x Index) Behind(prefix, after string, rev int64, most int) ([]api.Item, bool) {
	l := []api.Item{}
	// Who goes on page by page is not to look at all that is left for each page: the first one too many ends it.
	for i := max(x.keys.Rank(prefix), x.keys.Rank(next(after))); ; i++ {
		p, ok := x.keys.At(i)
		if !ok || !strings.HasPrefix(p.Key, prefix) {
			return l, true
		}
		v, ok := hist.At(p.V, rev)
		if !ok {
			continue
		}
		if len(l) >= most {
			return l, false
		}
		l = append(l, api.Item{Key: p.Key, V: v})
	}
}

// Changes tells what changed in the range from since to to, revision by revision, rising, each as a whole: as many revisions as have most versions at most, but the first one in any case.
func (x Index) Changes(from, end string, since, to int64, most int) []api.Batch {
	l := x.since(from, end, since, to)
	batches := []api.Batch{}
	for told := 0; len(l) > 0; {
		n := together(l)
		if told > 0 && told+n > most {
			break
		}
		batches = append(batches, api.Batch{Rev: l[0].V.Rev, L: slices.Clone(l[:n])})
		told += n
		l = l[n:]
	}
	return batches
}

// Leased tells the keys that are there with this lease, rising: none of 0, which is no lease.
func (x Index) Leased(lease int64) []string {
	l := []string{}
	if lease == 0 {
		return l
	}
	for _, p := range x.keys.All() {
		// A zero version is of no lease, so whether there is one needn't be asked.
		if v, _ := hist.Live(p.V); v.Lease == lease {
			l = append(l, p.Key)
		}
	}
	return l
}

// All tells all keys, rising, each with its history.
func (x Index) All() []order.Pair[string, []api.Ver] {
	l := x.keys.All()
	for i := range l {
		l[i].V = slices.Clone(l[i].V)
	}
	return l
}

// since tells the versions in the range whose Rev is from since to to, by Revs, and those of one Rev by keys, rising.
func (x Index) since(from, end string, since, to int64) []api.Item {
	l := []api.Item{}
	for _, p := range x.within(from, end) {
		for _, v := range hist.Since(p.V, since, to) {
			l = append(l, api.Item{Key: p.Key, V: v})
		}
	}
	// Keys rise already: a stable way of sorting leaves them so.
	slices.SortStableFunc(l, func(a, b api.Item) int { return cmp.Compare(a.V.Rev, b.V.Rev) })
	return l
}

// together tells how many of the first ones have the same Rev.
func together(l []api.Item) int {
	n := 0
	for n < len(l) && l[n].V.Rev == l[0].V.Rev {
		n++
	}
	return n
}
