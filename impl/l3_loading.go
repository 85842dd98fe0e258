package impl

import (
	"iter"
	"slices"
	"strings"
)

// MaxNeeds limits needs one after the other.
const MaxNeeds = 60

// A state tells of each segment, by its index in the tree, whether it is loaded.
type state [MaxSegments]bool

// A need is one for a segment, all of whose path must be loaded.
type need struct {
	path state
}

// StateValid reports whether segments can be loaded all at once.
func StateValid(tree []Segment, loaded string) bool {
	_, ok := findState(nodesOf(tree), loaded)
	return ok
}

// StatesOf returns all states of a tree.
func StatesOf(tree []Segment) ([]string, bool) {
	nodes := nodesOf(tree)
	var texts []string
	for s := range statesOf(nodes) {
		texts = append(texts, s.names(nodes))
	}
	return texts, len(texts) > 0
}

// NeedOf returns the state behind a need for a segment, and what is loaded.
func NeedOf(tree []Segment, loaded string, name string) (string, string, bool) {
	nodes := nodesOf(tree)
	before, after, ok := meetNeed(nodes, loaded, name)
	if !ok {
		return "", "", false
	}
	return after.names(nodes), after.less(before).names(nodes), true
}

// DropsOf returns the segments that are lost by a need for a segment.
func DropsOf(tree []Segment, loaded string, name string) (string, bool) {
	nodes := nodesOf(tree)
	before, after, ok := meetNeed(nodes, loaded, name)
	if !ok {
		return "", false
	}
	return before.less(after).names(nodes), true
}

// LoadCost returns the sizes of what is loaded together.
func LoadCost(tree []Segment, loaded string, name string) int {
	_, load, ok := NeedOf(tree, loaded, name)
	if !ok {
		return -1
	}
	return CostOf(tree, load)
}

// NeedAll returns the state behind needs for segments, one after the other, and what is loaded.
func NeedAll(tree []Segment, loaded string, needs string) (string, string, bool) {
	nodes := nodesOf(tree)
	held, ok := findState(nodes, loaded)
	if !ok || len(needs) > MaxNeeds {
		return "", "", false
	}
	named, ok := nodesNamed(nodes, needs)
	if !ok {
		return "", "", false
	}
	var load strings.Builder
	for _, meet := range needsFor(nodes, named) {
		next := meet(held)
		load.WriteString(next.less(held).names(nodes))
		held = next
	}
	return held.names(nodes), load.String(), true
}

// CostOf returns the sizes of all segments that are named.
func CostOf(tree []Segment, names string) int {
	nodes := nodesOf(tree)
	named, ok := nodesNamed(nodes, names)
	if nodes == nil || !ok {
		return -1
	}
	return sizesTogether(named...)
}

// CheapestNeed returns the first segment not loaded whose need costs least.
func CheapestNeed(tree []Segment, loaded string) (string, bool) {
	nodes := nodesOf(tree)
	held, ok := findState(nodes, loaded)
	if !ok {
		return "", false
	}
	name, least := "", 0
	for i, n := range nodes {
		if held[i] {
			continue
		}
		if cost := LoadCost(tree, loaded, n.name); name == "" || cost < least {
			name, least = n.name, cost
		}
	}
	return name, name != ""
}

// statesOf yields all states of a tree, first the one of none, and nothing if there are no nodes.
func statesOf(nodes []*node) iter.Seq[state] {
	return func(yield func(state) bool) {
		if len(nodes) == 0 || !yield(state{}) {
			return
		}
		for _, n := range nodes {
			if !yield(pathState(nodes, n)) {
				return
			}
		}
	}
}

// findState returns the state of a text, and false if the nodes have none.
func findState(nodes []*node, text string) (state, bool) {
	for s := range statesOf(nodes) {
		if s.names(nodes) == text {
			return s, true
		}
	}
	return state{}, false
}

// pathState returns the state in which the path of a node is loaded.
func pathState(nodes []*node, last *node) state {
	var s state
	for n := range last.path() {
		s[slices.Index(nodes, n)] = true
	}
	return s
}

// nodesNamed returns the node that each byte of a text names, and false if one names none.
func nodesNamed(nodes []*node, names string) ([]*node, bool) {
	var named []*node
	for i := range len(names) {
		found := findNode(nodes, names[i:i+1])
		if found == nil {
			return nil, false
		}
		named = append(named, found)
	}
	return named, true
}

// meetNeed returns the states before and after a need for a segment, and false if the text is no state or there is no such segment.
func meetNeed(nodes []*node, loaded string, name string) (before, after state, ok bool) {
	before, ok = findState(nodes, loaded)
	found := findNode(nodes, name)
	if !ok || found == nil {
		return state{}, state{}, false
	}
	return before, needFor(nodes, found).meet(before), true
}

func needFor(nodes []*node, needed *node) need {
	return need{path: pathState(nodes, needed)}
}

// needsFor returns, for each of some nodes, the function from the state ahead of a need for it to the one behind it.
func needsFor(nodes []*node, needed []*node) []func(held state) state {
	var needs []func(held state) state
	for _, n := range needed {
		needs = append(needs, needFor(nodes, n).meet)
	}
	return needs
}

// meet returns the state behind a need, which is the same one if all of the path is loaded.
func (n need) meet(held state) state {
	if n.path.less(held) == (state{}) {
		return held
	}
	return n.path
}

// less returns what is loaded in a state, but not in another one, which may be no path.
func (s state) less(other state) state {
	for i, also := range other {
		// s is a copy, so that this changes no state of the caller.
		s[i] = s[i] && !also
	}
	return s
}

// names returns the names of what is loaded, in the order of the tree, which is that of any path as well.
func (s state) names(nodes []*node) string {
	var out strings.Builder
	for i, n := range nodes {
		if s[i] {
			out.WriteString(n.name)
		}
	}
	return out.String()
}

// sizesTogether returns the sum of the sizes of nodes.
func sizesTogether(nodes ...*node) int {
	total := 0
	for _, n := range nodes {
		total += n.size
	}
	return total
}
