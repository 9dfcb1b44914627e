package btree

import (
	"bytes"
	"slices"
	"sort"

	"lexicon/api"
)

const (
	keysMark  = 1 // a page of keys begins with it
	valueMark = 2 // and one of a piece of a value

	markBytes   = 1
	levelBytes  = 1
	countBytes  = 2
	lengthBytes = 2 // of a key
	sizeBytes   = 4 // of a value
	pageBytes   = 4 // of a page's number

	nodeRoom  = api.Page - markBytes - levelBytes - countBytes
	pieceRoom = api.Page - markBytes - sizeBytes - pageBytes

	// No item has more than half a page: so one that is too long for a page can always be cut in
	// two that are not. A page that has less than half is held against its neighbours.
	half = nodeRoom / 2

	leaf    = 0 // the level of a page whose keys have values
	minKids = 2
)

// item is a key with its value, or, above the leaves, a kid with the key that parts it from the kid
// ahead of it.
type item struct {
	key   []byte // none of a first kid
	value []byte // one that is short, or not laid yet
	size  int    // of the value
	page  int    // the kid's, or the first one of a value that is not short
	kid   *node  // if it has changed
}

// node is a page of keys.
type node struct {
	tree      *Tree
	page      int    // noPage: it has none yet
	was       []byte // the bytes that the page has
	level     int    // how far it is from the leaves
	items     []item
	low, high []byte // all keys are at least low, and below high; no bytes of high: there is no bound
}

// piece is a page of a value.
type piece struct {
	bytes []byte
	left  int // how many bytes of the value are behind it
	next  int // the page that they begin in
}

// short tells whether a value stands beside its key.
func (it item) short() bool {
	return lengthBytes+len(it.key)+sizeBytes+it.size <= half
}

// nodeOf reads a page of keys.
func nodeOf(b []byte) *node {
	take := taker(b)
	take(markBytes)
	n := &node{was: b, level: number(take(levelBytes))}
	for range number(take(countBytes)) {
		n.items = append(n.items, n.take(take))
	}
	if !bytes.Equal(b, n.bytes()) { // all its bytes are as they would be laid
		panic(api.ErrBroken)
	}
	return n
}

// bytes tells a page of keys.
func (n *node) bytes() []byte {
	b := laid(make([]byte, 0, api.Page), keysMark, markBytes)
	b = laid(b, n.level, levelBytes)
	b = laid(b, len(n.items), countBytes)
	for _, it := range n.items {
		b = n.lay(b, it)
	}
	return whole(b)
}

// take takes an item off a page's bytes.
func (n *node) take(take func(n int) []byte) item {
	it := item{key: take(number(take(lengthBytes)))}
	if n.level == leaf {
		it.size = number(take(sizeBytes))
	}
	if n.leads(it) {
		it.page = number(take(pageBytes))
	} else {
		it.value = take(it.size)
	}
	return it
}

// lay lays an item behind bytes.
func (n *node) lay(b []byte, it item) []byte {
	b = laid(b, len(it.key), lengthBytes)
	b = append(b, it.key...)
	if n.level == leaf {
		b = laid(b, it.size, sizeBytes)
	}
	if n.leads(it) {
		return laid(b, it.page, pageBytes)
	}
	return append(b, it.value...)
}

// leads tells whether an item leads to a page.
func (n *node) leads(it item) bool { return n.level > leaf || !it.short() }

// room tells how many bytes an item has.
func (n *node) room(it item) int { return len(n.lay(nil, it)) }

// size tells how many bytes all of them have.
func (n *node) size() int {
	size := 0
	for _, it := range n.items {
		size += n.room(it)
	}
	return size
}

// sound tells whether the keys are such as may stand in the page.
func (n *node) sound() bool {
	keys := n.items
	if n.level > leaf {
		if len(keys) < minKids || len(keys[0].key) > 0 {
			return false
		}
		keys = keys[1:]
	}
	for i, it := range keys {
		if !mayBe(it.key) || it.size > api.MaxValue || i > 0 && bytes.Compare(keys[i-1].key, it.key) >= 0 {
			return false
		}
	}
	return len(keys) > 0 && bytes.Compare(keys[0].key, n.low) >= 0 &&
		(len(n.high) == 0 || bytes.Compare(keys[len(keys)-1].key, n.high) < 0)
}

// find tells how many keys are below one, and whether that one is there.
func (n *node) find(key []byte) (int, bool) {
	i := sort.Search(len(n.items), func(i int) bool { return bytes.Compare(n.items[i].key, key) >= 0 })
	return i, i < len(n.items) && bytes.Equal(n.items[i].key, key)
}

// lead tells which kid leads to a key.
func (n *node) lead(key []byte) int {
	i, there := n.find(key)
	if !there {
		i--
	}
	return i
}

// kid tells the page that an item leads to.
func (n *node) kid(i int) *node {
	it := n.items[i]
	if it.kid != nil {
		return it.kid
	}
	from, until := it.key, n.high
	if i == 0 {
		from = n.low
	}
	if i+1 < len(n.items) {
		until = n.items[i+1].key
	}
	kid := n.tree.node(it.page, from, until)
	if kid.level != n.level-1 {
		panic(api.ErrBroken)
	}
	return kid
}

// get goes down to a key.
func (n *node) get(key []byte) (item, bool) {
	if n.level > leaf {
		return n.kid(n.lead(key)).get(key)
	}
	i, there := n.find(key)
	if !there {
		return item{}, false
	}
	return n.items[i], true
}

// from goes over the items from a key on, rising; false: it was left.
func (n *node) from(key []byte, yield func(item) bool) bool {
	if n.level > leaf {
		for i := n.lead(key); i < len(n.items); i++ {
			if !n.kid(i).from(key, yield) {
				return false
			}
		}
		return true
	}
	i, _ := n.find(key)
	for _, it := range n.items[i:] {
		if !yield(it) {
			return false
		}
	}
	return true
}

// reach tells how many keys a page leads to, and all the pages that it does, itself among them.
func (n *node) reach() (keys int, pages []int) {
	pages = []int{n.page}
	for i, it := range n.items {
		more, under := 1, []int(nil)
		if n.level > leaf {
			more, under = n.kid(i).reach()
		} else {
			_, under = n.tree.value(it)
		}
		keys += more
		pages = append(pages, under...)
	}
	return keys, pages
}

// pieceOf reads a page of a value.
func pieceOf(b []byte) piece {
	take := taker(b)
	take(markBytes)
	size := number(take(sizeBytes))
	p := piece{next: number(take(pageBytes)), bytes: take(min(size, pieceRoom))}
	p.left = size - len(p.bytes)
	if !bytes.Equal(b, p.page()) || (p.left == 0) != (p.next == noPage) {
		panic(api.ErrBroken)
	}
	return p
}

// page tells a page of a value.
func (p piece) page() []byte {
	b := laid(nil, valueMark, markBytes)
	b = laid(b, len(p.bytes)+p.left, sizeBytes)
	b = laid(b, p.next, pageBytes)
	return whole(append(b, p.bytes...))
}

// taker takes parts off bytes, one behind another.
func taker(b []byte) func(n int) []byte {
	return func(n int) []byte {
		if n > len(b) {
			panic(api.ErrBroken)
		}
		part := b[:n:n]
		b = b[n:]
		return part
	}
}

// number tells the number that bytes are.
func number(b []byte) int {
	n := 0
	for i, by := range b {
		n |= int(by) << (8 * i)
	}
	return n
}

// laid lays a number behind bytes.
func laid(b []byte, n, width int) []byte {
	for i := range width {
		b = append(b, byte(n>>(8*i)))
	}
	return b
}

// whole tells a page with the noughts behind.
func whole(b []byte) []byte {
	return append(b, make([]byte, api.Page-len(b))...)
}

// parted is the least beginning of a key that is above the key ahead of it.
func parted(ahead, key []byte) []byte {
	n := 0
	for n < len(ahead) && ahead[n] == key[n] {
		n++
	}
	return key[:n+1]
}

// middle tells how many items the first one of two pages has, of which the longer one is as short as it may be.
func (n *node) middle() int {
	size, first := n.size(), 0
	at, least := 0, size
	for i, it := range n.items {
		first += n.room(it)
		if longer := max(first, size-first); longer < least {
			at, least = i+1, longer
		}
	}
	return at
}

// cut takes the last items off a page, into another one, and tells the key that parts them.
func (n *node) cut() (*node, []byte) {
	at := n.middle()
	behind := &node{tree: n.tree, level: n.level, items: slices.Clone(n.items[at:])}
	n.items = n.items[:at]
	first := &behind.items[0]
	if n.level == leaf {
		return behind, parted(n.items[at-1].key, first.key)
	}
	key := first.key
	first.key = nil
	return behind, key
}

// joined tells a kid and the next one as one page, in the place of the first one.
func (n *node) joined(i int) *node {
	first, next := n.kid(i), n.kid(i+1)
	both := *first
	both.items = slices.Concat(first.items, next.items)
	if both.level > leaf {
		both.items[len(first.items)].key = n.items[i+1].key
	}
	return &both
}
