package lease

import (
	"decamp/api"
)

// Get tells id with what is left of it at now, and whether it is there.
func (t Table) Get(id, now int64) (api.Lease, bool) {
	x, ok := t.lives.Get(id)
	if !ok || !rightTime(now) {
		return api.Lease{}, false
	}
	return x.tell(id, now), true
}

// Held tells whether id is there, and is held.
func (t Table) Held(id int64) bool {
	// Where none is, a zero life is answered, which isn't held.
	x, _ := t.lives.Get(id)
	return x.held
}

// Due tells the ids of all that have ended by now, rising.
func (t Table) Due(now int64) []int64 {
	l := []int64{}
	if !rightTime(now) {
		return l
	}
	for _, p := range t.lives.All() {
		if p.V.due(now) {
			l = append(l, p.Key)
		}
	}
	return l
}

// All tells all, by ids, rising, each with what is left of it at now.
func (t Table) All(now int64) []api.Lease {
	l := []api.Lease{}
	if !rightTime(now) {
		return l
	}
	for _, p := range t.lives.All() {
		l = append(l, p.V.tell(p.Key, now))
	}
	return l
}
