package store

import (
	"math"

	"typedholes/api"
)

// endless is the size of a type that contains itself.
const endless = math.MaxInt

// Size returns the number of nodes of the resolved form of t, or most + 1 if it is
// greater than most.
func Size(s api.Store, t api.Type, most int) int {
	// The greatest number is left for most + 1.
	most = min(max(most, 0), math.MaxInt-1)
	if most <= mostResolved {
		return sizeOfSmall(s, t, most)
	}
	c := counter{store: s, most: most, sizes: map[int]int{}, left: []step{{typ: t}}}
	for len(c.left) > 0 && c.nodes <= most {
		c.next()
	}
	return c.nodes
}

// sizeOfSmall is Size for a small most. Counting again what occurs again is faster
// then than remembering it.
func sizeOfSmall(s api.Store, t api.Type, most int) int {
	nodes := 1
	for _, arg := range Walk(s, t).Args {
		if nodes > most {
			break
		}
		nodes += sizeOfSmall(s, arg, most-nodes)
	}
	return nodes
}

// counter counts the nodes of a resolved form up to one more than most, for any most:
// also where the form doubles with each variable, and where, in a store that is not
// valid, it has no end. Its steps are on a stack of its own, since bound variables can
// make a type much deeper than those in the slots are.
type counter struct {
	store api.Store
	most  int
	nodes int
	sizes map[int]int // the sizes of what bound variables stand for, by their Ids
	left  []step
}

// step is a type to be counted, or, if closes is true, the end of what the bound
// variable typ stands for: the nodes that have come since before are its size.
type step struct {
	typ    api.Type
	closes bool
	before int
}

// next takes the next step.
func (c *counter) next() {
	last := len(c.left) - 1
	now := c.left[last]
	c.left = c.left[:last]
	if now.closes {
		c.sizes[now.typ.Id] = c.nodes - now.before
		return
	}
	if t, bound := standsFor(c.store, now.typ); bound {
		c.countBound(now.typ, t)
		return
	}
	c.add(1)
	c.countAll(now.typ.Args)
}

func (c *counter) countAll(l []api.Type) {
	for _, t := range l {
		c.left = append(c.left, step{typ: t})
	}
}

// countBound counts the type t that the bound variable v stands for. It is looked at
// only once, since resolved forms can double with each variable.
func (c *counter) countBound(v, t api.Type) {
	if size, counted := c.sizes[v.Id]; counted {
		c.add(size)
		return
	}
	c.sizes[v.Id] = endless // as long as t itself is being counted
	c.left = append(c.left, step{typ: v, closes: true, before: c.nodes}, step{typ: t})
}

// add counts nodes. Their sum may be too great for an integer.
func (c *counter) add(nodes int) {
	if nodes > c.most-c.nodes {
		c.nodes = c.most + 1
	} else {
		c.nodes += nodes
	}
}
