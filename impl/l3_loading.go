package impl

// MaxNeeds limits needs one after the other.
const MaxNeeds = 60

// StateValid reports whether segments can be loaded all at once.
func StateValid(tree []Segment, loaded string) bool { return false }

// StatesOf returns all states of a tree.
func StatesOf(tree []Segment) ([]string, bool) { return nil, false }

// NeedOf returns the state behind a need for a segment, and what is loaded.
func NeedOf(tree []Segment, loaded string, name string) (string, string, bool) { return "", "", false }

// DropsOf returns the segments that are lost by a need for a segment.
func DropsOf(tree []Segment, loaded string, name string) (string, bool) { return "", false }

// LoadCost returns the sizes of what is loaded together.
func LoadCost(tree []Segment, loaded string, name string) int { return 0 }

// NeedAll returns the state behind needs for segments, one after the other, and what is loaded.
func NeedAll(tree []Segment, loaded string, needs string) (string, string, bool) {
	return "", "", false
}

// CostOf returns the sizes of all segments that are named.
func CostOf(tree []Segment, names string) int { return 0 }

// CheapestNeed returns the first segment not loaded whose need costs least.
func CheapestNeed(tree []Segment, loaded string) (string, bool) { return "", false }
