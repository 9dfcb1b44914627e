package btree

import (
	"bytes"
	"slices"

	"lexicon/api"
)

// change is what a call makes of a tree: pages that have changed, ahead of their being laid.
type change struct {
	tree *Tree
	top  *node
	gone []int // pages that are no longer needed
}

// put puts an item.
func (c *change) put(it item) {
	c.down(c.top, it.key, func(n *node, i int, there bool) bool {
		if there {
			c.free(n.items[i])
			n.items[i] = it
		} else {
			n.items = slices.Insert(n.items, i, it)
		}
		return true
	})
}

// drop deletes a key; was it there?
func (c *change) drop(key []byte) bool {
	return c.down(c.top, key, func(n *node, i int, there bool) bool {
		if there {
			c.free(n.items[i])
			n.items = slices.Delete(n.items, i, i+1)
		}
		return there
	})
}

// free gives back the pages that a value has of its own.
func (c *change) free(it item) {
	_, pages := c.tree.value(it)
	c.gone = append(c.gone, pages...)
}

// down goes down to a key's leaf, lets it be changed, and makes the pages on the way fit again; has
// anything changed?
func (c *change) down(n *node, key []byte, do func(n *node, i int, there bool) bool) bool {
	if n.level == leaf {
		i, there := n.find(key)
		return do(n, i, there)
	}
	i := n.lead(key)
	kid := n.kid(i)
	was := kid.size()
	if !c.down(kid, key, do) {
		return false
	}
	n.items[i].kid = kid
	switch size := kid.size(); {
	case size > nodeRoom:
		c.cut(n, i)
	case size < half && size < was:
		c.join(n, i)
	}
	return true
}

// cut makes two of a kid.
func (c *change) cut(n *node, i int) {
	kid, key := n.items[i].kid.cut()
	n.items = slices.Insert(n.items, i+1, item{key: key, kid: kid})
}

// join makes one of a kid and a neighbour, if that has room in a page; a kid without keys takes some
// of its neighbour's else.
func (c *change) join(n *node, i int) {
	first, last := max(i-1, 0), min(i, len(n.items)-2)
	for at := first; at <= last; at++ {
		if both := n.joined(at); both.size() <= nodeRoom {
			c.keep(n, at, both)
			return
		}
	}
	if kid := n.items[i].kid; kid.level > leaf && len(kid.items) < minKids {
		c.keep(n, first, n.joined(first))
		c.cut(n, first)
	}
}

// keep puts one page in the place of a kid and the next one.
func (c *change) keep(n *node, i int, both *node) {
	c.gone = append(c.gone, n.items[i+1].page)
	n.items[i].kid = both
	n.items = slices.Delete(n.items, i+1, i+2)
}

// lay lets the pager have what has changed.
func (c *change) lay() {
	c.fit()
	// What is given back may be taken again for what is new.
	for _, page := range c.gone {
		must(c.tree.pager.Free(page))
	}
	page := noPage
	if len(c.top.items) > 0 {
		page = c.layNode(c.top)
	}
	was, e := c.tree.pager.Root(c.tree.root)
	must(e)
	if page != was {
		must(c.tree.pager.SetRoot(c.tree.root, page))
	}
}

// fit lets the tree have as many levels as it needs.
func (c *change) fit() {
	top := c.top
	switch {
	case top.size() > nodeRoom:
		c.top = &node{tree: c.tree, level: top.level + 1, items: []item{{kid: top}}}
		c.cut(c.top, 0)
	case top.level > leaf && len(top.items) < minKids:
		c.gone = append(c.gone, top.page)
		c.top = top.kid(0)
	case len(top.items) == 0 && top.page != noPage:
		c.gone = append(c.gone, top.page)
	}
}

// layNode lays a page of keys behind those that it leads to, and tells where.
func (c *change) layNode(n *node) int {
	for i := range n.items {
		switch it := &n.items[i]; {
		case it.kid != nil:
			it.page = c.layNode(it.kid)
		case n.leads(*it) && it.page == noPage:
			it.page = c.layValue(it.value)
		}
	}
	if n.page == noPage {
		n.page = c.alloc()
	}
	// The pager's log has room for so many changed pages alone.
	if b := n.bytes(); !bytes.Equal(b, n.was) {
		must(c.tree.pager.Put(n.page, b))
	}
	return n.page
}

// layValue lays a value into pages of its own, and tells the first one.
func (c *change) layValue(value []byte) int {
	next, left := noPage, 0
	pieces := slices.Collect(slices.Chunk(value, pieceRoom))
	for _, b := range slices.Backward(pieces) {
		page := c.alloc()
		must(c.tree.pager.Put(page, piece{bytes: b, left: left, next: next}.page()))
		next = page
		left += len(b)
	}
	return next
}

// alloc takes a page.
func (c *change) alloc() int {
	page, e := c.tree.pager.Alloc()
	must(e)
	return page
}

// must gives up with what was refused.
func must(e api.Errno) {
	if e != api.OK {
		panic(e)
	}
}
