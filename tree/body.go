package tree

import (
	"slices"

	"coffret/api"
	"coffret/sum"
)

// A node's page has a head: the node's level, and whether it is a root; then its cells, one behind another. A cell is how many bytes its key and its value have, then these. Of a node below the value is a link: its page, and the sum of that one's body, so that nothing is taken for it that lay there ahead of it, or came there later.
const (
	levelAt  = 0
	rootAt   = 1
	headSize = 2

	lengthSize = api.CellHead / 2

	sumAt    = 4
	linkSize = 8
)

// bodyOf is the body of the page of a node of these cells.
func bodyOf(level int, cells []cell, isRoot bool) []byte {
	body := []byte{levelAt: byte(level), rootAt: rootMark(isRoot)}
	for _, c := range cells {
		value := []byte(c.value)
		if c.below != nil {
			value = linkTo(c.below)
		}
		body = append(body, number(len(c.key), lengthSize)...)
		body = append(body, number(len(value), lengthSize)...)
		body = append(body, c.key...)
		body = append(body, value...)
	}
	return body
}

// opened is the node whose page has that body; false: no node's has.
func opened(body []byte, isRoot bool) (*node, bool) {
	if len(body) < headSize || body[rootAt] != rootMark(isRoot) {
		return nil, false
	}
	n := &node{level: int(body[levelAt]), size: len(body)}
	for at := headSize; at < len(body); {
		c, end, is := cellAt(body, at)
		if !is {
			return nil, false
		}
		n.cells = append(n.cells, c)
		at = end
	}
	return n, !n.isThin()
}

// cellAt is the cell that stands at a place of a body, and the place behind it; false: none does.
func cellAt(body []byte, at int) (cell, int, bool) {
	key, e := sum.Read(body, at, lengthSize)
	value, f := sum.Read(body, at+lengthSize, lengthSize)
	keyAt := at + api.CellHead
	valueAt := keyAt + key
	end := valueAt + value
	if e != api.OK || f != api.OK || key > api.MaxTreeKey || value > api.MaxTreeCell || end > len(body) {
		return cell{}, 0, false
	}
	return cell{key: string(body[keyAt:valueAt]), value: string(body[valueAt:end])}, end, true
}

// linkTo leads to a node that lies on a page.
func linkTo(n *node) []byte {
	return slices.Concat(number(n.page, sumAt), number(n.sum, linkSize-sumAt))
}

// linkIn are the page and the sum that a link tells; false: it is none.
func linkIn(value string) (int, int, bool) {
	if len(value) != linkSize {
		return 0, 0, false
	}
	at, _ := sum.Read([]byte(value), 0, sumAt)
	whole, _ := sum.Read([]byte(value), sumAt, linkSize-sumAt)
	return at, whole, true
}

// rootMark tells roots from all other nodes. It never has to change on a page: a node that comes to be a root, or to be none any more, is always one that was made anew.
func rootMark(isRoot bool) byte {
	if isRoot {
		return 1
	}
	return 0
}

// number are the bytes of a number that fits into so many.
func number(n, size int) []byte {
	b, _ := sum.Number(n, size)
	return b
}
