package lease

import (
	"math"

	"decamp/api"
)

// life is what a lease has beside its id.
type life struct {
	ttl  int64
	held bool
	// till is the time at which it ends, or, if it is held, what is left.
	till int64
}

// lasting makes a life of which so much is left: while it is held, or from now on.
func lasting(ttl, left int64, held bool, now int64) life {
	if held {
		return life{ttl: ttl, held: true, till: left}
	}
	// Held early and freed late, over and over, it has more and more left: what no number tells any more mustn't become an end that is past.
	return life{ttl: ttl, till: now + min(left, math.MaxInt64-now)}
}

// left tells what is left at now.
func (x life) left(now int64) int64 {
	if x.held {
		return x.till
	}
	return max(x.till-now, 0)
}

// due tells whether it has ended by now.
func (x life) due(now int64) bool { return !x.held && x.till <= now }

// tell tells it as api has it.
func (x life) tell(id, now int64) api.Lease {
	return api.Lease{ID: id, TTL: x.ttl, Left: x.left(now)}
}

// rightID tells whether id may be a lease's.
func rightID(id int64) bool { return id >= -api.MaxRev && id <= api.MaxRev && id != 0 }

// routed tells whether an id is a routed lease's.
func routed(id int64) bool { return id > 0 }

// rightTTL tells whether ttl may be a lease's.
func rightTTL(ttl int64) bool { return ttl >= 1 && ttl <= api.MaxTTL }

// rightTime tells whether now is a time.
func rightTime(now int64) bool { return now >= 0 && now <= api.MaxRev }
