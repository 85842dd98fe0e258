package impl

import (
	"iter"
	"slices"
	"strconv"
	"strings"
)

// Limits of trees.
const (
	MaxSegments = 8
	MaxSize     = 99
)

// noParent is the Parent of the root.
const noParent = -1

// A Segment has a name, a size, and the index of its parent, or -1.
type Segment struct {
	Name   string
	Size   int
	Parent int
}

// A node is a segment of a valid tree, linked to its parent, which the root has not, and its children.
type node struct {
	name     string
	size     int
	parent   *node
	children []*node
}

// TreeValid reports whether segments are a tree.
func TreeValid(tree []Segment) bool {
	if len(tree) < 1 || len(tree) > MaxSegments {
		return false
	}
	for i, s := range tree {
		if !nameValid(s.Name) || nameTaken(tree[:i], s.Name) || !sizeValid(s.Size) || !parentFits(tree, i) {
			return false
		}
	}
	return true
}

// FormatTree returns the text of a tree.
func FormatTree(tree []Segment) string {
	nodes := nodesOf(tree)
	if nodes == nil {
		return ""
	}
	var out strings.Builder
	nodes[0].write(&out)
	return out.String()
}

// ParseTree parses the text of a tree.
func ParseTree(text string) (tree []Segment, ok bool) {
	defer func() {
		if recover() != nil {
			tree, ok = nil, false
		}
	}()
	r := &treeReader{text: text}
	r.readSegment(noParent)
	r.expectEnd()
	return r.tree, true
}

// PathOf returns the names from the root to a segment.
func PathOf(tree []Segment, name string) (string, bool) {
	found := findNode(nodesOf(tree), name)
	if found == nil {
		return "", false
	}
	return joinNames(found.path()), true
}

// ChildrenOf returns the names of the children of a segment.
func ChildrenOf(tree []Segment, name string) (string, bool) {
	found := findNode(nodesOf(tree), name)
	if found == nil {
		return "", false
	}
	return joinNames(slices.Values(found.children)), true
}

// NamesOf returns the names of all segments.
func NamesOf(tree []Segment) (string, bool) {
	nodes := nodesOf(tree)
	if nodes == nil {
		return "", false
	}
	return joinNames(slices.Values(nodes)), true
}

// SizeOf returns the size of a segment.
func SizeOf(tree []Segment, name string) int {
	found := findNode(nodesOf(tree), name)
	if found == nil {
		return -1
	}
	return found.size
}

// TotalSize returns the sizes of all segments together.
func TotalSize(tree []Segment) int {
	if !TreeValid(tree) {
		return -1
	}
	total := 0
	for _, s := range tree {
		total += s.Size
	}
	return total
}

// CommonOf returns the last segment that the paths of two have in common.
func CommonOf(tree []Segment, a string, b string) (string, bool) {
	nodes := nodesOf(tree)
	first, second := findNode(nodes, a), findNode(nodes, b)
	if first == nil || second == nil {
		return "", false
	}
	common := ""
	names := joinNames(second.path())
	for step := range first.path() {
		if !strings.Contains(names, step.name) {
			break
		}
		common = step.name
	}
	return common, true
}

func nameValid(name string) bool {
	return len(name) == 1 && name[0] >= 'A' && name[0] <= 'H'
}

func nameTaken(segments []Segment, name string) bool {
	for _, s := range segments {
		if s.Name == name {
			return true
		}
	}
	return false
}

func sizeValid(size int) bool {
	return size >= 1 && size <= MaxSize
}

// parentFits reports whether the segment at an index has a parent that a tree allows there.
// It relies on the parents ahead of the index, which must have been checked, to lead to the root.
func parentFits(tree []Segment, index int) bool {
	if index == 0 {
		return tree[0].Parent == noParent
	}
	for above := index - 1; above != noParent; above = tree[above].Parent {
		if tree[index].Parent == above {
			return true
		}
	}
	return false
}

// nodesOf returns the nodes of a tree in order, and nil if it is not valid.
func nodesOf(tree []Segment) []*node {
	if !TreeValid(tree) {
		return nil
	}
	nodes := make([]*node, len(tree))
	for i, s := range tree {
		nodes[i] = &node{name: s.Name, size: s.Size}
		if s.Parent != noParent {
			nodes[s.Parent].adopt(nodes[i])
		}
	}
	return nodes
}

func findNode(nodes []*node, name string) *node {
	for _, n := range nodes {
		if n.name == name {
			return n
		}
	}
	return nil
}

func joinNames(nodes iter.Seq[*node]) string {
	var out strings.Builder
	for n := range nodes {
		out.WriteString(n.name)
	}
	return out.String()
}

func (n *node) adopt(child *node) {
	child.parent = n
	n.children = append(n.children, child)
}

// path yields the root, what lies between, and the node.
func (n *node) path() iter.Seq[*node] {
	return func(yield func(*node) bool) {
		if n.parent != nil {
			for above := range n.parent.path() {
				if !yield(above) {
					return
				}
			}
		}
		yield(n)
	}
}

func (n *node) write(out *strings.Builder) {
	out.WriteString(n.name)
	out.WriteString(strconv.Itoa(n.size))
	if len(n.children) == 0 {
		return
	}
	for i, child := range n.children {
		if i == 0 {
			out.WriteByte('(')
		} else {
			out.WriteByte(',')
		}
		child.write(out)
	}
	out.WriteByte(')')
}

// A treeReader reads the text of a tree. Its methods panic where the text is none.
type treeReader struct {
	text string
	at   int
	tree []Segment
}

// readSegment reads a segment and all below it.
// Since each level takes a name of its own, no text makes this recur further than there are names.
func (r *treeReader) readSegment(parent int) {
	name := r.readName()
	size := r.readSize()
	index := len(r.tree)
	r.tree = append(r.tree, Segment{Name: name, Size: size, Parent: parent})
	if !r.skip('(') {
		return
	}
	r.readSegment(index)
	for r.skip(',') {
		r.readSegment(index)
	}
	if !r.skip(')') {
		panic("children without an end")
	}
}

func (r *treeReader) readName() string {
	if r.at == len(r.text) {
		panic("no name")
	}
	name := string([]byte{r.text[r.at]})
	if !nameValid(name) || nameTaken(r.tree, name) {
		panic("not a new name")
	}
	r.at++
	return name
}

func (r *treeReader) readSize() int {
	size := 0
	for r.at < len(r.text) && r.text[r.at] >= '0' && r.text[r.at] <= '9' {
		size = 10*size + int(r.text[r.at]-'0')
		// Checked at each digit, so that neither a leading zero nor a size that wraps around passes.
		if !sizeValid(size) {
			panic("not a size")
		}
		r.at++
	}
	if size == 0 {
		panic("no size")
	}
	return size
}

// skip passes over a byte if it stands next.
func (r *treeReader) skip(c byte) bool {
	if r.at == len(r.text) || r.text[r.at] != c {
		return false
	}
	r.at++
	return true
}

func (r *treeReader) expectEnd() {
	if r.at != len(r.text) {
		panic("more than a tree")
	}
}
