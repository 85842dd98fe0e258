package impl

// MergeIn returns a tree in which a segment is one with its parent.
func MergeIn(tree []Segment, name string) ([]Segment, bool) { return nil, false }

// MoveUp returns a tree in which a segment is a child of the parent of its parent.
func MoveUp(tree []Segment, name string) ([]Segment, bool) { return nil, false }

// SubTree returns the tree whose root is a segment.
func SubTree(tree []Segment, name string) ([]Segment, bool) { return nil, false }

// Prune returns a tree without a segment and all below it.
func Prune(tree []Segment, name string) ([]Segment, bool) { return nil, false }

// Resize returns a tree in which a segment has another size.
func Resize(tree []Segment, name string, size int) ([]Segment, bool) { return nil, false }

// NamesIn returns a trace in which a segment stands for another one.
func NamesIn(tree []Segment, trace string, name string, other string) (string, bool) {
	return "", false
}

// RoomLeft returns how much a segment can grow without more room.
func RoomLeft(tree []Segment, name string) int { return 0 }
