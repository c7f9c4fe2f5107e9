package blink

import (
	"cmp"
	"iter"
	"slices"

	"lattice/api"
	"lattice/page"
	"lattice/redo"
)

// root is the page with which a tree begins.
const root = 1

// pages are some pages. To be looked up in, their numbers must rise.
type pages []redo.Slot

// spot is a page of a row, with its low end (empty: none).
type spot struct {
	page int
	node api.Node
	low  string
}

// leaves are the pages of the row of level 0, if the pages are a tree; else there are none, and false.
func (l pages) leaves() ([]spot, bool) {
	if !l.areRight() {
		return nil, false
	}
	var above []spot
	for level, row := range l.rows() {
		if !isRow(row, level) || !isBelow(row, above) {
			return nil, false
		}
		above = row
	}
	return above, true
}

// areRight tells whether pages rise from 1 to MaxPages, and their nodes are right.
func (l pages) areRight() bool {
	last := 0
	for _, s := range l {
		if s.Page <= last || s.Page > api.MaxPages || page.Check(s.Node) != api.OK {
			return false
		}
		last = s.Page
	}
	return true
}

// rows are the levels from the root's down to 0, each with its row as far as that goes. They end early only behind a row without an inner page at its front, above level 0, which is no row of a tree.
func (l pages) rows() iter.Seq2[int, []spot] {
	return func(yield func(int, []spot) bool) {
		first := root
		top, _ := l.find(root)
		for level := top.Level; level >= 0; level-- {
			row := slices.Collect(l.row(first))
			if !yield(level, row) || len(row) == 0 || len(row[0].node.Kids) == 0 {
				return
			}
			first = row[0].node.Kids[0]
		}
	}
}

// row are pages, from a first one on by Right, as far as they are there. It has no more of them than there are, so that one that goes round ends too; of both, one that breaks off and one that goes round, the last page's Right is not 0.
func (l pages) row(first int) iter.Seq[spot] {
	return func(yield func(spot) bool) {
		next, low := first, ""
		for range l {
			n, there := l.find(next)
			if !there || !yield(spot{next, n, low}) {
				return
			}
			next, low = n.Right, n.High
		}
	}
}

// isRow tells whether pages, if there are any, are a whole row of a level. None of them is in a row ahead, as those are of other levels.
func isRow(row []spot, level int) bool {
	for i, s := range row {
		isLast := i == len(row)-1
		if s.node.Level != level || (s.node.Right == 0) != isLast || (s.node.High == "") != isLast || !s.keepsToLow() {
			return false
		}
	}
	return true
}

// keepsToLow tells whether nothing of a page is below its low end: no key (in an inner page none that is the same, either: it would be the key ahead of the page itself), and not its High, of which keys say nothing where there are none. A row whose Highs fall goes back to keys that belong to pages ahead, at which walks end: behind them, what it has would not be found. Where High is the low end, no key belongs to the page, and nothing is lost.
func (s spot) keepsToLow() bool {
	isInner := s.node.Level > 0
	for _, k := range s.node.Keys {
		if k < s.low || isInner && k == s.low {
			return false
		}
	}
	return s.node.High == "" || s.node.High >= s.low
}

// isBelow tells whether each kid of the row above is a page of a row, with the low end at which it is looked for. Above the root there is no row, and beside it no page.
func isBelow(row, above []spot) bool {
	if len(above) == 0 {
		return len(row) == 1
	}
	at := map[int]spot{}
	for _, s := range row {
		at[s.page] = s
	}
	for _, s := range above {
		low := s.low
		for i, kid := range s.node.Kids {
			if i > 0 {
				low = s.node.Keys[i-1]
			}
			if below, there := at[kid]; !there || below.low != low {
				return false
			}
		}
	}
	return true
}

// entriesOf are the entries of some leaves.
func entriesOf(leaves []spot) iter.Seq[api.Entry] {
	return func(yield func(api.Entry) bool) {
		for _, s := range leaves {
			for i, k := range s.node.Keys {
				if !yield(api.Entry{Key: k, Value: s.node.Vals[i]}) {
					return
				}
			}
		}
	}
}

// place is where a page stands or would stand, and whether it is there.
func (l pages) place(i int) (int, bool) {
	return slices.BinarySearchFunc(l, i, func(s redo.Slot, i int) int { return cmp.Compare(s.Page, i) })
}

// find is the node of a page, which is not copied, and whether it is there.
func (l pages) find(i int) (api.Node, bool) {
	at, there := l.place(i)
	if !there {
		return api.Node{}, false
	}
	return l[at].Node, true
}

// with are the pages, which are the caller's to change, with a page's node.
func (l pages) with(i int, n api.Node) pages {
	at, there := l.place(i)
	if there {
		l[at].Node = n
		return l
	}
	return slices.Insert(l, at, redo.Slot{Page: i, Node: n})
}

// copied are the pages with nodes of their own.
func (l pages) copied() pages {
	l = slices.Clone(l)
	for i := range l {
		l[i].Node = copiedNode(l[i].Node)
	}
	return l
}

// copiedNode is a node with lists of its own.
func copiedNode(n api.Node) api.Node {
	n.Keys, n.Vals, n.Kids = slices.Clone(n.Keys), slices.Clone(n.Vals), slices.Clone(n.Kids)
	return n
}
