package table

import "tailrace/api"

// entry is one of a table, and stands in its chain.
type entry struct {
	key           string
	val           api.Val
	time          uint64 // at which it was put last
	ahead, behind *entry
}

// chain is a ring of entries. One that is none of them stands between its last and its first, so that each has one ahead
// of it and one behind it.
type chain struct {
	ends *entry
}

func newChain() chain {
	ends := &entry{}
	ends.ahead, ends.behind = ends, ends
	return chain{ends}
}

// add makes x the last one.
func (c chain) add(x *entry) {
	last := c.ends.ahead
	x.ahead, x.behind = last, c.ends
	last.behind, c.ends.ahead = x, x
}

// leave takes x out of its chain. It knows on what was behind it, so that who goes through the chain goes on from there.
func (x *entry) leave() {
	x.ahead.behind, x.behind.ahead = x.behind, x.ahead
}

// entries goes through them, in order; the one that is told may leave.
func (c chain) entries(yield func(*entry) bool) {
	for x := c.ends.behind; x != c.ends; x = x.behind {
		if !yield(x) {
			return
		}
	}
}
