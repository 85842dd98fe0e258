package tests

import (
	"math"
	"slices"
	"strconv"
	"strings"
	"testing"

	"loop.example/segmentrooms/impl"
)

// A building is what is told of trees that are built for pairs.
type building struct {
	room  int
	built string
	chain string
}

// A layout tells of each segment of a tree, by its index, the set of the segments on its path, with a bit for each index.
type layout [impl.MaxSegments]uint8

// layoutsOf returns the layouts of all trees of n segments with the same root.
func layoutsOf(n int) []layout {
	codes := 1
	for range n - 1 {
		codes *= n
	}
	var layouts []layout
	for code := range codes {
		var parents [impl.MaxSegments]int
		for i := 1; i < n; i++ {
			parents[i], code = code%n, code/n
		}
		if l, ok := layoutWith(parents[:n]); ok {
			layouts = append(layouts, l)
		}
	}
	return layouts
}

// layoutWith returns the layout of segments with these parents, and false if one of them does not lead to the root.
func layoutWith(parents []int) (layout, bool) {
	var l layout
	for i := range parents {
		at := i
		for at != 0 && l[i]&(1<<at) == 0 {
			l[i] |= 1 << at
			at = parents[at]
		}
		if at != 0 {
			return layout{}, false
		}
		l[i] |= 1
	}
	return l, true
}

// leastOfLayouts returns the least room of those layouts of the segments of a tree in which each two names that may be active at once lie together.
func leastOfLayouts(tree []impl.Segment, together []string, layouts []layout) int {
	indexOf := func(name string) int {
		return slices.IndexFunc(tree, func(s impl.Segment) bool { return s.Name == name })
	}
	var pairs [][2]int
	for _, two := range together {
		pairs = append(pairs, [2]int{indexOf(two[:1]), indexOf(two[1:])})
	}
	var sizes [1 << impl.MaxSegments]int
	for set := range sizes {
		for i, s := range tree {
			if set&(1<<i) != 0 {
				sizes[set] += s.Size
			}
		}
	}
	least := math.MaxInt
	for _, l := range layouts {
		if slices.ContainsFunc(pairs, func(p [2]int) bool { return l[p[0]]&(1<<p[1]) == 0 && l[p[1]]&(1<<p[0]) == 0 }) {
			continue
		}
		room := 0
		for i := range tree {
			room = max(room, sizes[l[i]])
		}
		least = min(least, room)
	}
	return least
}

// partsIn returns the parts of some names, each in their order, by putting the names of each pair into one.
func partsIn(together []string, names string) []string {
	parts := strings.Split(names, "")
	for _, two := range together {
		one := slices.IndexFunc(parts, func(part string) bool { return strings.Contains(part, two[:1]) })
		other := slices.IndexFunc(parts, func(part string) bool { return strings.Contains(part, two[1:]) })
		if one >= 0 && other >= 0 && one != other {
			// The one ahead stays where it is, so that parts stay in the order of their first names.
			parts[min(one, other)] += parts[max(one, other)]
			parts = slices.Delete(parts, max(one, other), max(one, other)+1)
		}
	}
	for i, part := range parts {
		parts[i] = strings.Join(strings.FieldsFunc(names, func(name rune) bool { return !strings.ContainsRune(part, name) }), "")
	}
	return parts
}

// plannedOf returns the least room of some names of a tree, in its order, and the text of the trees of their parts.
func plannedOf(tree []impl.Segment, together []string, names string) (int, string) {
	room := 0
	var trees []string
	for _, part := range partsIn(together, names) {
		least, text := 0, ""
		for _, s := range tree {
			if !strings.Contains(part, s.Name) {
				continue
			}
			below, others := plannedOf(tree, together, strings.Replace(part, s.Name, "", 1))
			if text == "" || s.Size+below < least {
				least, text = s.Size+below, withBelow(s, others)
			}
		}
		room = max(room, least)
		trees = append(trees, text)
	}
	return room, strings.Join(trees, ",")
}

func withBelow(s impl.Segment, trees string) string {
	text := s.Name + strconv.Itoa(s.Size)
	if trees == "" {
		return text
	}
	return text + "(" + trees + ")"
}

// heaviestIn returns the first one of the heaviest chains, of all sets of names that have the root.
func heaviestIn(tree []impl.Segment, together []string) string {
	var chains []string
	greatest := 0
	for bits := 1; bits < 1<<len(tree); bits += 2 {
		size, places, lie := 0, "", true
		for i, s := range tree {
			if bits&(1<<i) == 0 {
				continue
			}
			for _, place := range []byte(places) {
				other := tree[place-'0'].Name
				lie = lie && slices.Contains(together, min(other, s.Name)+max(other, s.Name))
			}
			size += s.Size
			places += strconv.Itoa(i)
		}
		if lie && size > greatest {
			greatest, chains = size, nil
		}
		if lie && size == greatest {
			chains = append(chains, places)
		}
	}
	names := ""
	for _, place := range []byte(slices.Min(chains)) {
		names += tree[place-'0'].Name
	}
	return names
}

// buildingOf returns what is told of trees that are built for valid pairs.
func buildingOf(tree []impl.Segment, together []string) building {
	names := ""
	for _, s := range tree[1:] {
		names += s.Name
	}
	room, trees := plannedOf(tree, together, names)
	return building{tree[0].Size + room, withBelow(tree[0], trees), heaviestIn(tree, together)}
}

// tellBuilding checks all that is told of trees that are built for valid pairs, against these layouts of the segments.
func tellBuilding(t *testing.T, tree []impl.Segment, pairs []string, layouts []layout) {
	t.Helper()
	together := strings.Fields(graphingOf(tree, pairs).together)
	want := buildingOf(tree, together)
	checkBuilding(t, tree, pairs, want)
	if least := leastOfLayouts(tree, together, layouts); least != want.room {
		t.Fatalf("LeastRoom(%v, %q) = %d, but the least room of all safe trees is %d", tree, pairs, want.room, least)
	}
}

// checkBuilding checks what is told, and that the tree that is built is a safe one of the same segments which takes the least room.
func checkBuilding(t *testing.T, tree []impl.Segment, pairs []string, want building) {
	t.Helper()
	if room := impl.LeastRoom(tree, pairs); room != want.room {
		t.Fatalf("LeastRoom(%v, %q) = %d, not %d", tree, pairs, room, want.room)
	}
	built, ok := impl.BuildTree(tree, pairs)
	if impl.FormatTree(built) != want.built || !ok {
		t.Fatalf("BuildTree(%v, %q) = %v, %v, not %q", tree, pairs, built, ok, want.built)
	}
	if room := impl.RoomOf(built); room != want.room || !impl.GraphSafe(built, pairs) {
		t.Fatalf("BuildTree(%v, %q) = %q, which takes %d, safe: %v", tree, pairs, want.built, room, impl.GraphSafe(built, pairs))
	}
	checkSame(t, tree, built, true)
	chain, ok := impl.HeaviestChain(tree, pairs)
	if chain != want.chain || !ok {
		t.Fatalf("HeaviestChain(%v, %q) = %q, %v, not %q", tree, pairs, chain, ok, want.chain)
	}
	if cost := impl.CostOf(tree, chain); cost > want.room || !impl.ChainLies(built, chain) {
		t.Fatalf("HeaviestChain(%v, %q) = %q of %d, which %q has no room for", tree, pairs, chain, cost, want.built)
	}
}

// checkBuilt checks that what is told of pairs is as written out, also by the second reckoning of it.
func checkBuilt(t *testing.T, text, pairs string, want building) {
	t.Helper()
	tree := mustParse(t, text)
	checkBuilding(t, tree, strings.Fields(pairs), want)
	tellBuilding(t, tree, strings.Fields(pairs), layoutsOf(len(tree)))
}

// checkSame checks what is told of two lists of segments, and of the same ones the other way round.
func checkSame(t *testing.T, a, b []impl.Segment, want bool) {
	t.Helper()
	if impl.SameSegments(a, b) != want || impl.SameSegments(b, a) != want {
		t.Fatalf("SameSegments(%v, %v) = %v, and %v the other way round", a, b, impl.SameSegments(a, b), impl.SameSegments(b, a))
	}
}

// checkNotBuilt checks what is returned where a tree or pairs are not valid.
func checkNotBuilt(t *testing.T, tree []impl.Segment, pairs []string) {
	t.Helper()
	if room := impl.LeastRoom(tree, pairs); room != -1 {
		t.Errorf("LeastRoom(%v, %.100q) = %d", tree, pairs, room)
	}
	if built, ok := impl.BuildTree(tree, pairs); len(built) != 0 || ok {
		t.Errorf("BuildTree(%v, %.100q) = %v, %v", tree, pairs, built, ok)
	}
	if chain, ok := impl.HeaviestChain(tree, pairs); chain != "" || ok {
		t.Errorf("HeaviestChain(%v, %.100q) = %q, %v", tree, pairs, chain, ok)
	}
}

// forwardPairs returns all pairs of a name and one that stands behind it.
func forwardPairs(names string) []string {
	var pairs []string
	for i := range names {
		for j := range names[:i] {
			pairs = append(pairs, names[j:j+1]+names[i:i+1])
		}
	}
	slices.Sort(pairs)
	return pairs
}

// ordersOfCallers returns the names of a tree in its order, and with the others but the root the other way round.
func ordersOfCallers(tree []impl.Segment) []string {
	forth, back := tree[0].Name, ""
	for _, s := range tree[1:] {
		forth += s.Name
		back = s.Name + back
	}
	return []string{forth, tree[0].Name + back}
}

// callsDown returns pairs within a tree of which none makes a ring: most segments are called by the root, and some by others.
func (c *chooser) callsDown(tree []impl.Segment) []string {
	names := tree[0].Name
	for _, s := range tree[1:] {
		at := 1 + c.below(len(names))
		names = names[:at] + s.Name + names[at:]
	}
	chance := 1 + c.below(5)
	var pairs []string
	for _, pair := range forwardPairs(names) {
		if pair[:1] == names[:1] && c.below(8) > 0 || pair[:1] != names[:1] && c.below(8) < chance {
			pairs = append(pairs, pair)
		}
	}
	for len(pairs) > impl.MaxPairs {
		at := c.below(len(pairs))
		pairs = slices.Delete(pairs, at, at+1)
	}
	return pairs
}

func TestLayoutsAreAllTrees(t *testing.T) {
	for i, want := range []int{1, 1, 3, 16, 125, 1296, 16807, 262144} {
		if layouts := layoutsOf(i + 1); len(layouts) != want {
			t.Errorf("%d trees of %d segments", len(layouts), i+1)
		}
	}
}

func TestBuildingOfTheDocument(t *testing.T) {
	checkBuilt(t, "A1(B1,C1,D1)", "AB AC CD", building{3, "A1(B1,C1(D1))", "ACD"})
	checkBuilt(t, "A4(B3,C5(D1,E2))", "AB AC BD", building{9, "A4(B3(D1),C5,E2)", "AC"})
	checkBuilt(t, "A4(C5(E2,D1),B3)", "AB AC BD", building{9, "A4(C5,E2,D1(B3))", "AC"})
	tree := mustParse(t, "A4(B3,C5(D1,E2))")
	if flat, ok := impl.FlatTree(tree); impl.FormatTree(flat) != "A4(B3,C5,D1,E2)" || !ok {
		t.Errorf("FlatTree = %v, %v", flat, ok)
	}
	if chain, ok := impl.ChainTree(tree); impl.FormatTree(chain) != "A4(B3(C5(D1(E2))))" || !ok {
		t.Errorf("ChainTree = %v, %v", chain, ok)
	}
}

func TestBuildingForNoPairs(t *testing.T) {
	for text, want := range map[string]building{
		"A1":                             {1, "A1", "A"},
		"H99":                            {99, "H99", "H"},
		"B1(A99)":                        {100, "B1(A99)", "B"},
		"D4(H3(A1,B1(C9)),E5(F1,G2))":    {13, "D4(H3,A1,B1,C9,E5,F1,G2)", "D"},
		"H9(G8(F7(E6(D5(C4(B3(A2)))))))": {17, "H9(G8,F7,E6,D5,C4,B3,A2)", "H"},
	} {
		checkBuilt(t, text, "", want)
		checkBuilding(t, mustParse(t, text), []string{}, want)
	}
	for name := range strings.SplitSeq("ABCDEFGH", "") {
		checkBuilt(t, name+"7", name+name, building{7, name + "7", name})
	}
}

// TestBuildingWithSegmentsThatAreNeverCalled checks that each of these is a part of its own, whatever calls it makes.
func TestBuildingWithSegmentsThatAreNeverCalled(t *testing.T) {
	for pairs, want := range map[string]building{
		"AA":                {9, "A4(B3,C5,D1,E2)", "A"},
		"BC":                {9, "A4(B3,C5,D1,E2)", "A"},
		"CB":                {9, "A4(B3,C5,D1,E2)", "A"},
		"BC CB":             {9, "A4(B3,C5,D1,E2)", "A"},
		"BB":                {9, "A4(B3,C5,D1,E2)", "A"},
		"BA BC CA DE ED":    {9, "A4(B3,C5,D1,E2)", "A"},
		"AB":                {9, "A4(B3,C5,D1,E2)", "AB"},
		"AB CB DB EB":       {9, "A4(B3,C5,D1,E2)", "AB"},
		"AB CD DC":          {9, "A4(B3,C5,D1,E2)", "AB"},
		"AB DE EB":          {9, "A4(B3,C5,D1,E2)", "AB"},
		"AD BD CD ED":       {9, "A4(B3,C5,D1,E2)", "AD"},
		"AE BC CE":          {9, "A4(B3,C5,D1,E2)", "AE"},
		"AC BC CD":          {10, "A4(B3,C5(D1),E2)", "ACD"},
		"AD BD CE DE":       {9, "A4(B3,C5,D1(E2))", "ADE"},
		"AB BE CE DC":       {9, "A4(B3(E2),C5,D1)", "ABE"},
		"AE BC CB ED":       {9, "A4(B3,C5,D1(E2))", "ADE"},
		"AB AC BA CD DC EA": {13, "A4(B3(C5(D1)),E2)", "ABCD"},
	} {
		checkBuilt(t, "A4(B3,C5(D1,E2))", pairs, want)
	}
	checkBuilt(t, "A1(B1,C99)", "AB", building{100, "A1(B1,C99)", "AB"})
	checkBuilt(t, "A1(B1(C99))", "AB CB", building{100, "A1(B1,C99)", "AB"})
	checkBuilt(t, "A1(B1(C2(D3)))", "AB BC", building{4, "A1(B1(C2),D3)", "ABC"})
}

// TestPartsOfWhichOneMayBeLeftOut checks which segment of a part is put ahead of the others.
func TestPartsOfWhichOneMayBeLeftOut(t *testing.T) {
	for _, c := range []struct {
		text, pairs string
		want        building
	}{
		// Each of two or three may be, so that it is the first one in the order of the tree.
		{"A1(B1,C1)", "AB BC", building{3, "A1(B1(C1))", "ABC"}},
		{"A1(C1,B1)", "AB BC", building{3, "A1(C1(B1))", "ACB"}},
		{"A1(B2,C9)", "AC CB", building{12, "A1(B2(C9))", "ABC"}},
		{"A1(C9,B2)", "AC CB", building{12, "A1(C9(B2))", "ACB"}},
		{"A1(D5,B1,C3)", "AB BC CD", building{10, "A1(D5(B1(C3)))", "ADBC"}},
		// C lies between B and D, so that these share their room behind it.
		{"A1(B1,C1,D1)", "AB AD BC DC", building{3, "A1(C1(B1,D1))", "ABC"}},
		{"A1(B1,D1,C1)", "AB AD BC DC", building{3, "A1(C1(B1,D1))", "ABC"}},
		{"A1(D1,B1,C1)", "AB AD BC DC", building{3, "A1(C1(D1,B1))", "ADC"}},
		{"A1(B2,C9,D3)", "AC CB CD", building{13, "A1(C9(B2,D3))", "ACD"}},
		// Of B, C, D and E in a row, each may be put ahead, also the first one.
		{"A1(B1,C1,D1,E1)", "AB AD BC DC DE", building{4, "A1(B1(D1(C1,E1)))", "ABC"}},
		{"A1(C1,B1,D1,E1)", "AB AD BC DC DE", building{4, "A1(C1(B1,D1(E1)))", "ACB"}},
		{"A1(E1,D1,C1,B1)", "AB AD BC DC DE", building{4, "A1(E1(C1(D1,B1)))", "AED"}},
		{"A1(D1,E1,C1,B1)", "AB AD BC DC DE", building{4, "A1(D1(E1,C1(B1)))", "ADE"}},
		// Sizes decide which of them may be.
		{"A1(B1,C2,D1,E1)", "AB AD BC DC DE", building{5, "A1(B1(D1(C2,E1)))", "ABC"}},
		{"A1(B1,C1,D2,E1)", "AB AD BC DC DE", building{5, "A1(B1(D2(C1,E1)))", "ACD"}},
		{"A1(B3,C1,D1,E1)", "AB AD BC DC DE", building{5, "A1(C1(B3,D1(E1)))", "ABC"}},
		{"A1(B1,C1,D1,E3)", "AB AD BC DC DE", building{5, "A1(D1(B1(C1),E3))", "ADE"}},
		{"A1(B1,C5,D5,E1)", "AB AD BC DC DE", building{12, "A1(B1(D5(C5,E1)))", "ACD"}},
		{"A1(B5,C1,D1,E5)", "AB AD BC DC DE", building{8, "A1(C1(B5,D1(E5)))", "ABC"}},
	} {
		checkBuilt(t, c.text, c.pairs, c.want)
	}
}

// TestOrdersOfParts checks that parts stand in the order of their first segments, also where another one of them is ahead.
func TestOrdersOfParts(t *testing.T) {
	for _, c := range []struct {
		text, pairs string
		want        building
	}{
		{"A1(B1,C5,D1,E1)", "AB AC AE BD ED", building{6, "A1(D1(B1,E1),C5)", "AC"}},
		{"A1(C5,B1,D1,E1)", "AB AC AE BD ED", building{6, "A1(C5,D1(B1,E1))", "AC"}},
		{"A1(D1,C5,B1,E1)", "AB AC AE BD ED", building{6, "A1(D1(B1,E1),C5)", "AC"}},
		{"A1(E1,C5,B1,D1)", "AB AC AE BD ED", building{6, "A1(D1(E1,B1),C5)", "AC"}},
		{"A1(B1,C1,D1,E1)", "AB AC BD CE", building{3, "A1(B1(D1),C1(E1))", "ABD"}},
		{"A1(E1,D1,C1,B1)", "AB AC BD CE", building{3, "A1(E1(C1),D1(B1))", "AEC"}},
		{"H1(B1,C1,D1,E1,F1,G1,A1)", "BF CF CG DG DA EA HB HC HD HE", building{4, "H1(G1(F1(B1,C1),A1(D1,E1)))", "HBF"}},
		{"H1(A1,G1,F1,E1,D1,C1,B1)", "BF CF CG DG DA EA HB HC HD HE", building{4, "H1(G1(A1(E1,D1),F1(C1,B1)))", "HAE"}},
	} {
		pairs := strings.Fields(c.pairs)
		slices.Sort(pairs)
		checkBuilt(t, c.text, strings.Join(pairs, " "), c.want)
	}
}

func TestSeveralChainsOfOneSize(t *testing.T) {
	for _, c := range []struct{ text, pairs, want string }{
		{"A1(B1,C1)", "AB AC", "AB"},
		{"A1(C1,B1)", "AB AC", "AC"},
		{"A1(B1,C2)", "AB AC", "AC"},
		{"A1(B1,C1,D1)", "AC AD", "AC"},
		{"A1(B2,C1,D1)", "AB AC CD", "AB"},
		{"A1(C1,B2,D1)", "AB AC CD", "ACD"},
		{"A1(C1,D1,B2)", "AB AC CD", "ACD"},
		{"A1(D1,B2,C1)", "AB AC CD", "ADC"},
		{"A1(D1,B3,C1)", "AB AC CD", "AB"},
		{"A1(B1,C1,D2)", "AB AD BC", "ABC"},
		{"A1(B1,C1,D3)", "AB AD BC", "AD"},
		{"A1(B1,C1,D1)", "AB BC BD", "ABC"},
		{"A1(B1,D1,C1)", "AB BC BD", "ABD"},
		{"A1(D1,C1,B1)", "AB BC BD", "ADB"},
		{"A1(B2,C1,D1,E2)", "AB BC BE CD", "ABCD"},
		{"A1(B2,E2,C1,D1)", "AB BC BE CD", "ABE"},
		{"A1(D1,B2,E2,C1)", "AB BC BE CD", "ADBC"},
		{"A1(B1,C1,D1,E1)", "AB AD BC BE DC DE", "ABC"},
		{"A1(E1,D1,C1,B1)", "AB AD BC BE DC DE", "AED"},
		{"A1(C1,B1,E1,D1)", "AB AD BC BE DC DE", "ACB"},
		{"A9(B2,C3,D5,E5)", "AB AC AD AE BC", "ABC"},
		{"A9(E5,B2,C3,D5)", "AB AC AD AE BC", "AE"},
		{"A9(C3,E5,B2,D5)", "AB AC AD AE BC", "ACB"},
	} {
		tree := mustParse(t, c.text)
		tellBuilding(t, tree, strings.Fields(c.pairs), layoutsOf(len(tree)))
		if chain, ok := impl.HeaviestChain(tree, strings.Fields(c.pairs)); chain != c.want || !ok {
			t.Errorf("HeaviestChain(%s, %q) = %q, %v, not %q", c.text, c.pairs, chain, ok, c.want)
		}
	}
}

// TestBuildingForRings checks that segments that reach each other are all active at once, and that one which reaches only itself is not.
func TestBuildingForRings(t *testing.T) {
	for pairs, want := range map[string]building{
		"AB BA":          {9, "A4(B3,C5,D1,E2)", "AB"},
		"AB BB":          {9, "A4(B3,C5,D1,E2)", "AB"},
		"AB AC BA":       {12, "A4(B3(C5),D1,E2)", "ABC"},
		"AD DE ED":       {9, "A4(B3,C5,D1(E2))", "ADE"},
		"AC CD DE EC":    {12, "A4(B3,C5(D1(E2)))", "ACDE"},
		"AE BA CD DB EC": {15, "A4(B3(C5(D1(E2))))", "ABCDE"},
	} {
		checkBuilt(t, "A4(B3,C5(D1,E2))", pairs, want)
	}
}

// TestBuildingOfAllSmallGraphs checks all pairs of up to three segments.
func TestBuildingOfAllSmallGraphs(t *testing.T) {
	for n := 1; n <= 3; n++ {
		layouts := layoutsOf(n)
		for _, parents := range preorders(n) {
			for _, tree := range treesOfShape(parents) {
				for bits := range 1 << (n * n) {
					tellBuilding(t, tree, chosen(allPairs(tree), bits), layouts)
				}
			}
		}
	}
}

// TestBuildingForAllCallsDown checks all pairs of four or five segments of which none makes a ring, and of six that are all called by the root.
func TestBuildingForAllCallsDown(t *testing.T) {
	for n := 4; n <= 6; n++ {
		layouts := layoutsOf(n)
		parents := preorders(n)
		for i, tree := range treesOfShape(parents[len(parents)/2]) {
			names := ordersOfCallers(tree)[i%2]
			maybe, always := forwardPairs(names), []string(nil)
			if n == 6 {
				maybe = forwardPairs(names[1:])
				for _, s := range tree[1:] {
					always = append(always, names[:1]+s.Name)
				}
			}
			for bits := range 1 << len(maybe) {
				pairs := slices.Concat(always, chosen(maybe, bits))
				slices.Sort(pairs)
				tellBuilding(t, tree, pairs, layouts)
			}
		}
	}
}

// TestBuildingOfLargerTrees checks pairs of many numbers of four to eight segments in the orders of trees of many shapes.
func TestBuildingOfLargerTrees(t *testing.T) {
	var c chooser
	for n := 4; n <= impl.MaxSegments; n++ {
		layouts := layoutsOf(n)
		shapes := preorders(n)
		for range 50 {
			for _, tree := range treesOfShape(shapes[c.below(len(shapes))]) {
				tellBuilding(t, tree, c.callsDown(tree), layouts)
				tellBuilding(t, tree, c.pairsOver(tree, c.below(impl.MaxPairs+1)), layouts)
			}
		}
	}
}

// arrangedOf returns all trees of the segments of a tree with the same root, each list of them once.
func arrangedOf(tree []impl.Segment) [][]impl.Segment {
	rows := [][]impl.Segment{tree[:1]}
	for range tree[1:] {
		var longer [][]impl.Segment
		for _, row := range rows {
			for _, s := range tree {
				if !slices.ContainsFunc(row, func(other impl.Segment) bool { return other.Name == s.Name }) {
					longer = append(longer, append(slices.Clone(row), s))
				}
			}
		}
		rows = longer
	}
	var all [][]impl.Segment
	for _, row := range rows {
		for _, parents := range preorders(len(tree)) {
			arranged := slices.Clone(row)
			for i, p := range parents {
				arranged[i].Parent = p
			}
			all = append(all, arranged)
		}
	}
	return all
}

// TestNoSafeTreeTakesLessRoom checks the least room against all trees of the same segments, by what chapters 2 and 7 tell of them.
func TestNoSafeTreeTakesLessRoom(t *testing.T) {
	var c chooser
	for n := 1; n <= 5; n++ {
		for _, tree := range treesOfShape(preorders(n)[0]) {
			all := arrangedOf(tree)
			for range 15 {
				for _, pairs := range [][]string{c.callsDown(tree), c.pairsOver(tree, n)} {
					least := impl.LeastRoom(tree, pairs)
					found := false
					for _, other := range all {
						if !impl.GraphSafe(other, pairs) {
							continue
						}
						room := impl.RoomOf(other)
						if room < least || impl.LeastRoom(other, pairs) != least {
							t.Fatalf("LeastRoom(%v, %q) = %d, but %v is safe and takes %d", tree, pairs, least, other, room)
						}
						checkSame(t, tree, other, true)
						found = found || room == least
					}
					if !found {
						t.Fatalf("LeastRoom(%v, %q) = %d, but no safe tree takes this", tree, pairs, least)
					}
				}
			}
		}
	}
}

// TestBuildingGoesByTheOrderAlone checks that nothing of what is told depends on the parents in the tree.
func TestBuildingGoesByTheOrderAlone(t *testing.T) {
	for _, list := range []string{"", "AB AD BC DC DE", "AF AG BD BE CD CE DF DG FC GB", "AH BA CB DC ED FE GF HG", "CA CB CD DE DF EG FH", "HA HB HC AD BD BE CE DF EG"} {
		pairs := strings.Fields(list)
		slices.Sort(pairs)
		for i, flat := range treesOfShape([]int{-1, 0, 0, 0, 0, 0, 0, 0}) {
			want := buildingOf(flat, strings.Fields(graphingOf(flat, pairs).together))
			for _, parents := range preorders(impl.MaxSegments) {
				checkBuilding(t, treesOfShape(parents)[i], pairs, want)
			}
		}
	}
}

// TestBuildingOfEightSegments checks pairs by which all, none or some of the largest segments share their room.
func TestBuildingOfEightSegments(t *testing.T) {
	for pairs, want := range map[string]building{
		"":                                    {198, "A99(B99,C99,D99,E99,F99,G99,H99)", "A"},
		"AB AC AD AE AF AG AH":                {198, "A99(B99,C99,D99,E99,F99,G99,H99)", "AB"},
		"AB BC CD DE EF FG GH":                {792, "A99(B99(C99(D99(E99(F99(G99(H99)))))))", "ABCDEFGH"},
		"AH BA CB DC ED FE GF HG":             {792, "A99(B99(C99(D99(E99(F99(G99(H99)))))))", "ABCDEFGH"},
		"BC CD DE EF FG GH HB":                {198, "A99(B99,C99,D99,E99,F99,G99,H99)", "A"},
		"AH BC CD DE EF FG GH":                {198, "A99(B99,C99,D99,E99,F99,G99,H99)", "AH"},
		"AB BC BD BE BF BG BH":                {297, "A99(B99(C99,D99,E99,F99,G99,H99))", "ABC"},
		"AC AD AE AF AG AH CB DB EB FB GB HB": {297, "A99(B99(C99,D99,E99,F99,G99,H99))", "ABC"},
		"AB AC BD BE CF CG GH":                {396, "A99(B99(D99,E99),C99(F99,G99(H99)))", "ACGH"},
	} {
		checkBuilt(t, "A99(B99,C99(D99(E99),F99),G99,H99)", pairs, want)
	}
	// Each of the segments that are called by more than one lies between others in a row of all seven.
	checkBuilt(t, "A1(B1,C1,D1,E1,F1,G1,H1)", "AB AC AD AE BF CF CG DG DH EH", building{4, "A1(G1(F1(B1,C1),H1(D1,E1)))", "ABF"})
	checkBuilt(t, "A1(B1,C1,D1,E1,F9,G1,H9)", "AB AC AD AE BF CF CG DG DH EH", building{12, "A1(G1(F9(B1,C1),H9(D1,E1)))", "ABF"})
	checkBuilt(t, "A1(B1,C1,D1,E1,F1,G9,H1)", "AB AC AD AE BF CF CG DG DH EH", building{12, "A1(C1(B1(F1),D1(E1(H1),G9)))", "ACG"})
}

func TestBuildingForMostPairs(t *testing.T) {
	small := mustParse(t, "A4(B3,C5(D1,E2))")
	all := allPairs(small)
	for _, pairs := range [][]string{all[:19], all[:20], all[5:], slices.Concat(all[:10], all[15:])} {
		tellBuilding(t, small, pairs, layoutsOf(len(small)))
	}
	for _, pairs := range [][]string{all[:21], all[4:], all, slices.Repeat(all[:1], 21), slices.Repeat(all[:1], 1000000), make([]string, 21), make([]string, 1000000), slices.Concat(all[:20], []string{""})} {
		checkNotBuilt(t, small, pairs)
	}
	layouts := layoutsOf(impl.MaxSegments)
	for _, text := range []string{"A1(B2,C3,D4,E5,F6,G7,H8)", "H9(G9(F9(E9(D9(C9(B9,A9))))))", "D4(H3(A1,B1(C9)),E5(F1,G2))"} {
		tree := mustParse(t, text)
		for _, names := range ordersOfCallers(tree) {
			pairs := forwardPairs(names)
			for _, begin := range []int{0, 3, 8} {
				tellBuilding(t, tree, pairs[begin:begin+20], layouts)
			}
			for begin := range 8 {
				checkNotBuilt(t, tree, pairs[begin:begin+21])
			}
			checkNotBuilt(t, tree, pairs)
		}
		checkNotBuilt(t, tree, allPairs(tree))
	}
}

func TestBuildingForNoPair(t *testing.T) {
	tree := mustParse(t, "A4(B3,C5(D1,E2))")
	for _, bad := range textsOfNoPair() {
		checkNotBuilt(t, tree, []string{bad})
		among := []string{"AB", "AC", "BD", bad}
		slices.Sort(among)
		checkNotBuilt(t, tree, among)
	}
	for _, pairs := range pairsOutOfOrder(tree) {
		checkNotBuilt(t, tree, pairs)
	}
	// In the order of the tree, which is not that of the alphabet.
	checkNotBuilt(t, mustParse(t, "D4(H3(A1,B1(C9)),E5(F1,G2))"), []string{"DH", "DE"})
	checkNotBuilt(t, mustParse(t, "B1"), []string{"AA"})
	checkNotBuilt(t, mustParse(t, "B1"), []string{"AB"})
	checkNotBuilt(t, mustParse(t, "B1"), []string{"BA"})
}

func TestBuildingOfInvalidTrees(t *testing.T) {
	valid := mustParse(t, "B2(A1(C3))")
	for _, tree := range invalidTrees() {
		for _, pairs := range [][]string{nil, {}, {"BA"}, {"BB"}, {"AC", "BA"}, {"II"}, {""}} {
			checkNotBuilt(t, tree, pairs)
		}
		if flat, ok := impl.FlatTree(tree); len(flat) != 0 || ok {
			t.Errorf("FlatTree(%v) = %v, %v", tree, flat, ok)
		}
		if chain, ok := impl.ChainTree(tree); len(chain) != 0 || ok {
			t.Errorf("ChainTree(%v) = %v, %v", tree, chain, ok)
		}
		checkSame(t, tree, valid, false)
		checkSame(t, tree, tree, false)
		checkSame(t, tree, slices.Clone(tree), false)
		checkSame(t, tree, nil, false)
	}
}

// checkParents checks that a tree has the segments of another one, in order, with these parents.
func checkParents(t *testing.T, tree, got []impl.Segment, ok bool, parents []int) {
	t.Helper()
	want := slices.Clone(tree)
	for i, p := range parents {
		want[i].Parent = p
	}
	if !slices.Equal(got, want) || !ok || !impl.TreeValid(got) {
		t.Fatalf("%v became %v, %v, not %v", tree, got, ok, want)
	}
	checkSame(t, tree, got, true)
}

func TestFlatTreesAndChains(t *testing.T) {
	for n := 1; n <= impl.MaxSegments; n++ {
		flatParents := []int{-1, 0, 0, 0, 0, 0, 0, 0}[:n]
		chainParents := []int{-1, 0, 1, 2, 3, 4, 5, 6}[:n]
		for _, parents := range preorders(n) {
			for _, tree := range treesOfShape(parents) {
				flat, ok := impl.FlatTree(tree)
				checkParents(t, tree, flat, ok, flatParents)
				chain, ok := impl.ChainTree(tree)
				checkParents(t, tree, chain, ok, chainParents)
			}
		}
	}
	for text, want := range map[string][2]string{
		"A1":               {"A1", "A1"},
		"H99":              {"H99", "H99"},
		"B2(A1)":           {"B2(A1)", "B2(A1)"},
		"B2(C3,A1)":        {"B2(C3,A1)", "B2(C3(A1))"},
		"B2(C3(A1))":       {"B2(C3,A1)", "B2(C3(A1))"},
		"D4(H3(A1),E5,B7)": {"D4(H3,A1,E5,B7)", "D4(H3(A1(E5(B7))))"},
	} {
		tree := mustParse(t, text)
		flat, _ := impl.FlatTree(tree)
		chain, _ := impl.ChainTree(tree)
		if impl.FormatTree(flat) != want[0] || impl.FormatTree(chain) != want[1] {
			t.Errorf("FlatTree, ChainTree(%s) = %v, %v", text, flat, chain)
		}
	}
}

func TestSameSegments(t *testing.T) {
	for _, c := range []struct {
		a, b string
		want bool
	}{
		{"A1", "A1", true}, {"A1", "A2", false}, {"A1", "B1", false}, {"A1", "A1(B1)", false}, {"A1(B1)", "B1(A1)", false}, {"A1(B2)", "A1(B2)", true}, {"A1(B2)", "A2(B1)", false}, {"A1(B2)", "A1(C2)", false},
		{"A4(B3,C5(D1,E2))", "A4(D1,B3,E2(C5))", true}, {"A4(B3,C5(D1,E2))", "A4(E2(D1(C5(B3))))", true}, {"A4(B3,C5(D1,E2))", "A4(B3,C5(D1,E3))", false}, {"A4(B3,C5(D1,E2))", "A4(B3,C5(D2,E1))", false},
		{"A4(B3,C5(D1,E2))", "A5(B3,C5(D1,E2))", false}, {"A4(B3,C5(D1,E2))", "A4(B3,C5(D1))", false}, {"A4(B3,C5(D1,E2))", "A4(B3,C5(D1,F2))", false}, {"A4(B3,C5(D1,E2))", "A4(B3,C5(D1,E2,F1))", false},
		{"A4(B3,C5(D1,E2))", "B3(A4,C5(D1,E2))", false}, {"A1(B1,C1)", "B1(A1,C1)", false}, {"A1(B1,C1)", "C1(B1(A1))", false}, {"A1(B1,C1)", "A1(C1(B1))", true},
		{"H99(G99(F99(E99(D99(C99(B99(A99)))))))", "H99(A99,B99,C99,D99,E99,F99,G99)", true}, {"H99(G99(F99(E99(D99(C99(B99(A99)))))))", "H99(A99,B99,C99,D99,E99,F99,G98)", false}, {"H99(G99(F99(E99(D99(C99(B99(A99)))))))", "H99(A99,B99,C99,D99,E99,F99)", false},
	} {
		a, b := mustParse(t, c.a), mustParse(t, c.b)
		checkSame(t, a, b, c.want)
		checkSame(t, a, a, true)
		checkSame(t, b, b, true)
	}
}

// TestSegmentsThatDiffer checks trees of all shapes against each other, of which each has the same segments or one that is different.
func TestSegmentsThatDiffer(t *testing.T) {
	for n := 1; n <= 5; n++ {
		for _, parents := range preorders(n) {
			for _, others := range preorders(n) {
				tree, other := treeWithParents(parents...), treeWithParents(others...)
				checkSame(t, tree, other, true)
				for i := range other {
					changed := slices.Clone(other)
					changed[i].Size++
					checkSame(t, tree, changed, false)
					changed[i] = impl.Segment{Name: "H", Size: other[i].Size, Parent: other[i].Parent}
					checkSame(t, tree, changed, false)
				}
			}
		}
	}
}

func TestBuildingChangesNothing(t *testing.T) {
	row := mustParse(t, "A4(B3,C5(D1,E2),F1)")
	list := strings.Fields("AB AC BD DB EC")
	keptRow, keptList := slices.Clone(row), slices.Clone(list)
	tellBuilding(t, row[:5], list[:4], layoutsOf(5))
	impl.FlatTree(row[:5])
	impl.ChainTree(row[:5])
	impl.SameSegments(row[:5], row[:5])
	if !slices.Equal(row, keptRow) || !slices.Equal(list, keptList) {
		t.Errorf("a function changed its argument to %v or %q", row, list)
	}
}

func TestBuildingSharesNothing(t *testing.T) {
	tree := mustParse(t, "A4(B3,C5(D1,E2))")
	kept := slices.Clone(tree)
	pairs := strings.Fields("AB AC BD")
	build := func(tree []impl.Segment) ([]impl.Segment, bool) { return impl.BuildTree(tree, pairs) }
	for i, changed := range []func(tree []impl.Segment) ([]impl.Segment, bool){impl.FlatTree, impl.ChainTree, build} {
		one, _ := changed(tree)
		two, _ := changed(tree)
		want := slices.Clone(one)
		clear(two[:cap(two)])
		if !slices.Equal(one, want) || !slices.Equal(tree, kept) {
			t.Errorf("function %d: a change of one result changes another one to %v or the tree to %v", i, one, tree)
		}
	}
}
