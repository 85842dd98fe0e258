package impl

import (
	"slices"
	"strings"
)

// MergeIn returns a tree in which a segment is one with its parent.
func MergeIn(tree []Segment, name string) ([]Segment, bool) {
	nodes := nodesOf(tree)
	merged := findNode(nodes, name)
	if merged == nil || merged.parent == nil || !sizeValid(merged.parent.size+merged.size) {
		return nil, false
	}
	merged.parent.size += merged.size
	merged.parent.replace(merged, merged.children...)
	return nodes[0].segments(), true
}

// MoveUp returns a tree in which a segment is a child of the parent of its parent.
func MoveUp(tree []Segment, name string) ([]Segment, bool) {
	nodes := nodesOf(tree)
	moved := findNode(nodes, name)
	if moved == nil || moved.parent == nil || moved.parent.parent == nil {
		return nil, false
	}
	// All below the old parent stood behind it and ahead of the next child of the new one, and so does what is moved.
	old := moved.parent
	old.replace(moved)
	old.parent.replace(old, old, moved)
	return nodes[0].segments(), true
}

// SubTree returns the tree whose root is a segment.
func SubTree(tree []Segment, name string) ([]Segment, bool) {
	found := findNode(nodesOf(tree), name)
	if found == nil {
		return nil, false
	}
	return found.segments(), true
}

// Prune returns a tree without a segment and all below it.
func Prune(tree []Segment, name string) ([]Segment, bool) {
	nodes := nodesOf(tree)
	pruned := findNode(nodes, name)
	if pruned == nil || pruned.parent == nil {
		return nil, false
	}
	pruned.parent.replace(pruned)
	return nodes[0].segments(), true
}

// Resize returns a tree in which a segment has another size.
func Resize(tree []Segment, name string, size int) ([]Segment, bool) {
	nodes := nodesOf(tree)
	resized := findNode(nodes, name)
	if resized == nil || !sizeValid(size) {
		return nil, false
	}
	resized.size = size
	return nodes[0].segments(), true
}

// NamesIn returns a trace in which a segment stands for another one.
func NamesIn(tree []Segment, trace string, name string, other string) (string, bool) {
	from, to := findTwo(tree, name, other)
	if from == nil || to == nil || !TraceValid(tree, trace) {
		return "", false
	}
	return strings.ReplaceAll(trace, name, other), true
}

// RoomLeft returns how much a segment can grow without more room.
func RoomLeft(tree []Segment, name string) int {
	nodes := nodesOf(tree)
	found := findNode(nodes, name)
	if found == nil {
		return -1
	}
	// What lies below a segment moves when it grows, so that only the room behind all of this is left.
	free := span{begin: found.endBelow(), end: nodes[0].endBelow()}
	return free.first(MaxSize - found.size).length()
}

// copyNodes returns what becomes of each of some nodes.
func copyNodes[T any](nodes []*node, become func(n *node) T) []T {
	var copies []T
	for _, n := range nodes {
		copies = append(copies, become(n))
	}
	return copies
}

// replace puts nodes, in order, in the place of a child, which stays below the node only if it is one of them.
func (n *node) replace(child *node, others ...*node) {
	at := slices.Index(n.children, child)
	n.children = slices.Replace(n.children, at, at+1, others...)
	for _, other := range others {
		other.parent = n
	}
}

// subtree returns a node and all below it, in order.
func (n *node) subtree() []*node {
	nodes := []*node{n}
	for _, child := range n.children {
		nodes = append(nodes, child.subtree()...)
	}
	return nodes
}

// segments returns the tree whose root is a node.
func (n *node) segments() []Segment {
	nodes := n.subtree()
	return copyNodes(nodes, func(n *node) Segment {
		// The parent of the root is not among the nodes, for which Index returns noParent.
		return Segment{Name: n.name, Size: n.size, Parent: slices.Index(nodes, n.parent)}
	})
}

// endBelow returns the first address behind a node and all below it.
func (n *node) endBelow() int {
	return slices.Max(copyNodes(n.subtree(), func(n *node) int { return n.place().end }))
}

func (s span) length() int {
	return s.end - s.begin
}

// first returns the first addresses of a span, of which there are at most so many.
func (s span) first(count int) span {
	return span{begin: s.begin, end: min(s.end, s.begin+count)}
}
