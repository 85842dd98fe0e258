package tests

import (
	"math"
	"slices"
	"strconv"
	"strings"
	"testing"

	"loop.example/segmentrooms/impl"
)

// cellsOf returns, for each address of the room of a tree, the names of the segments that are put there one after the other:
// each from the first address on at which no segment of its path lies.
func cellsOf(tree []impl.Segment) []string {
	cells := make([]string, impl.MaxSegments*impl.MaxSize+1)
	for i, s := range tree {
		above := pathIn(tree, i)
		at := 0
		for strings.ContainsAny(cells[at], above) {
			at++
		}
		for range s.Size {
			cells[at] += s.Name
			at++
		}
	}
	return cells[:slices.Index(cells, "")]
}

// countCells returns how many cells have all of these names.
func countCells(cells []string, names ...string) int {
	count := 0
	for _, c := range cells {
		if !slices.ContainsFunc(names, func(name string) bool { return !strings.Contains(c, name) }) {
			count++
		}
	}
	return count
}

// tellRoom checks all that is told of the room of a valid tree against its cells.
func tellRoom(t *testing.T, tree []impl.Segment) {
	t.Helper()
	text := formatted(tree)
	cells := cellsOf(tree)
	places := []string{}
	longest, total := "", 0
	for i, s := range tree {
		first := slices.IndexFunc(cells, func(c string) bool { return strings.Contains(c, s.Name) })
		last := first + s.Size - 1
		if begin, end := impl.AddressOf(tree, s.Name), impl.EndOf(tree, s.Name); begin != first || end != last+1 {
			t.Fatalf("%s: AddressOf, EndOf %s = %d, %d", text, s.Name, begin, end)
		}
		if longest == "" && last == len(cells)-1 {
			longest = pathIn(tree, i)
		}
		places = append(places, s.Name+strconv.Itoa(first)+"-"+strconv.Itoa(last))
		total += s.Size
		tellPairs(t, tree, i, cells)
	}
	if room, saved := impl.RoomOf(tree), impl.SavedRoom(tree); room != len(cells) || saved != total-len(cells) {
		t.Fatalf("%s: RoomOf, SavedRoom = %d, %d", text, room, saved)
	}
	if path, ok := impl.LongestPath(tree); path != longest || !ok {
		t.Fatalf("%s: LongestPath = %q, %v, not %q", text, path, ok, longest)
	}
	if where, ok := impl.MapOf(tree); where != strings.Join(places, " ") || !ok {
		t.Fatalf("%s: MapOf = %q, %v, not %q", text, where, ok, places)
	}
	for address, names := range cells {
		if got, ok := impl.LiesAt(tree, address); got != names || !ok {
			t.Fatalf("%s: LiesAt(%d) = %q, %v, not %q", text, address, got, ok, names)
		}
	}
	checkNoAddress(t, tree, -1)
	checkNoAddress(t, tree, len(cells))
}

// tellPairs checks what is told of the segment at an index and each other one.
func tellPairs(t *testing.T, tree []impl.Segment, index int, cells []string) {
	t.Helper()
	a := tree[index].Name
	for j, s := range tree {
		together := strings.Contains(pathIn(tree, j), a) || strings.Contains(pathIn(tree, index), s.Name)
		if got := impl.LieTogether(tree, a, s.Name); got != together {
			t.Fatalf("LieTogether(%v, %s, %s) = %v", tree, a, s.Name, got)
		}
		if got, want := impl.Overlap(tree, a, s.Name), countCells(cells, a, s.Name); got != want {
			t.Fatalf("Overlap(%v, %s, %s) = %d, not %d", tree, a, s.Name, got, want)
		}
	}
}

func checkNoAddress(t *testing.T, tree []impl.Segment, address int) {
	t.Helper()
	if names, ok := impl.LiesAt(tree, address); names != "" || ok {
		t.Errorf("LiesAt(%v, %d) = %q, %v", tree, address, names, ok)
	}
}

func TestRoomOfTheDocument(t *testing.T) {
	tree := mustParse(t, "A4(B3,C5(D1,E2))")
	if room, saved := impl.RoomOf(tree), impl.SavedRoom(tree); room != 11 || saved != 4 {
		t.Errorf("RoomOf, SavedRoom = %d, %d", room, saved)
	}
	if path, ok := impl.LongestPath(tree); path != "ACE" || !ok {
		t.Errorf("LongestPath = %q, %v", path, ok)
	}
	if where, ok := impl.MapOf(tree); where != "A0-3 B4-6 C4-8 D9-9 E9-10" || !ok {
		t.Errorf("MapOf = %q, %v", where, ok)
	}
	for name, want := range map[string][2]int{"A": {0, 4}, "B": {4, 7}, "C": {4, 9}, "D": {9, 10}, "E": {9, 11}} {
		if begin, end := impl.AddressOf(tree, name), impl.EndOf(tree, name); begin != want[0] || end != want[1] {
			t.Errorf("AddressOf, EndOf %s = %d, %d", name, begin, end)
		}
	}
	for address, want := range []string{"A", "A", "A", "A", "BC", "BC", "BC", "C", "C", "DE", "E"} {
		if names, ok := impl.LiesAt(tree, address); names != want || !ok {
			t.Errorf("LiesAt(%d) = %q, %v", address, names, ok)
		}
	}
}

func TestChildrenOfDifferentSizes(t *testing.T) {
	tree := mustParse(t, "H2(C1,A7,B3(G9,F4))")
	for name, want := range map[string][2]int{"H": {0, 2}, "C": {2, 3}, "A": {2, 9}, "B": {2, 5}, "G": {5, 14}, "F": {5, 9}} {
		if begin, end := impl.AddressOf(tree, name), impl.EndOf(tree, name); begin != want[0] || end != want[1] {
			t.Errorf("AddressOf, EndOf %s = %d, %d", name, begin, end)
		}
	}
	if room, saved := impl.RoomOf(tree), impl.SavedRoom(tree); room != 14 || saved != 12 {
		t.Errorf("RoomOf, SavedRoom = %d, %d", room, saved)
	}
	// A begins with B and ends with F, so that it lies over parts of both and over a part of G.
	for _, c := range []struct {
		a, b string
		want int
	}{{"C", "A", 1}, {"A", "B", 3}, {"A", "F", 4}, {"A", "G", 4}, {"G", "F", 4}, {"A", "A", 7}, {"C", "F", 0}, {"H", "C", 0}, {"B", "G", 0}} {
		if one, two := impl.Overlap(tree, c.a, c.b), impl.Overlap(tree, c.b, c.a); one != c.want || two != c.want {
			t.Errorf("Overlap(%s, %s) = %d, %d", c.a, c.b, one, two)
		}
	}
	if names, ok := impl.LiesAt(tree, 2); names != "CAB" || !ok {
		t.Errorf("LiesAt(2) = %q, %v: not in the order of the tree", names, ok)
	}
}

// TestSegmentsApart checks segments that share no address: on one path they lie together, on different ones they do not.
func TestSegmentsApart(t *testing.T) {
	tree := mustParse(t, "A4(B3,C5(D1,E2))")
	for _, c := range []struct {
		a, b string
		want bool
	}{{"B", "D", false}, {"B", "E", false}, {"A", "B", true}, {"A", "E", true}, {"C", "E", true}} {
		for _, pair := range [][2]string{{c.a, c.b}, {c.b, c.a}} {
			if shared := impl.Overlap(tree, pair[0], pair[1]); shared != 0 {
				t.Errorf("Overlap(%s, %s) = %d", pair[0], pair[1], shared)
			}
			if together := impl.LieTogether(tree, pair[0], pair[1]); together != c.want {
				t.Errorf("LieTogether(%s, %s) = %v", pair[0], pair[1], together)
			}
		}
	}
}

func TestLongestPathIsTheFirst(t *testing.T) {
	for text, want := range map[string]string{
		"A1(B1,C1,D1)":         "AB",
		"A1(B1,C2,D2)":         "AC",
		"A1(B2(C1),D3)":        "ABC",
		"A1(D3,B2(C1))":        "AD",
		"A1(B1(C1),D1(E1))":    "ABC",
		"A1(B9,C1(D1(E1)))":    "AB",
		"G1(F1(E1),D1(C2))":    "GDC",
		"A1(B1(C8),D9,E8)":     "ABC",
		"A1(B1(C7),D9,E9)":     "AD",
		"A5(B9(C1,D7),E3)":     "ABD",
		"A99(B99,C99,D99)":     "AB",
		"A99(B98(C1),D99)":     "ABC",
		"A99(B98(C1),D99(E1))": "ADE",
	} {
		if path, ok := impl.LongestPath(mustParse(t, text)); path != want || !ok {
			t.Errorf("LongestPath(%s) = %q, %v", text, path, ok)
		}
	}
}

func TestRoomOfOneSegment(t *testing.T) {
	for name, size := range map[string]int{"A": 1, "H": 99, "D": 10} {
		tree := []impl.Segment{{Name: name, Size: size, Parent: -1}}
		tellRoom(t, tree)
		if impl.AddressOf(tree, name) != 0 || impl.EndOf(tree, name) != size || impl.RoomOf(tree) != size || impl.SavedRoom(tree) != 0 {
			t.Errorf("%v: %d, %d, %d, %d", tree, impl.AddressOf(tree, name), impl.EndOf(tree, name), impl.RoomOf(tree), impl.SavedRoom(tree))
		}
		where, one := impl.MapOf(tree)
		path, two := impl.LongestPath(tree)
		if where != name+"0-"+strconv.Itoa(size-1) || path != name || !one || !two {
			t.Errorf("%v: %q, %q", tree, where, path)
		}
		if !impl.LieTogether(tree, name, name) || impl.Overlap(tree, name, name) != size {
			t.Errorf("%v: %v, %d", tree, impl.LieTogether(tree, name, name), impl.Overlap(tree, name, name))
		}
	}
}

func TestRoomOfLargestTrees(t *testing.T) {
	for text, want := range map[string][2]int{
		"A99(B99,C99,D99,E99,F99,G99,H99)":       {198, 594},
		"H99(G99(F99(E99(D99(C99(B99(A99)))))))": {792, 0},
		"A99(B99(C99(D99)),E99(F99(G99),H99))":   {396, 396},
	} {
		tree := mustParse(t, text)
		tellRoom(t, tree)
		if room, saved := impl.RoomOf(tree), impl.SavedRoom(tree); room != want[0] || saved != want[1] {
			t.Errorf("%s: RoomOf, SavedRoom = %d, %d", text, room, saved)
		}
	}
}

// treesOfShape returns trees of these parents, with names and sizes in different orders, those of equal sizes among them.
func treesOfShape(parents []int) [][]impl.Segment {
	fill := func(name func(i int) byte, size func(i int) int) []impl.Segment {
		tree := make([]impl.Segment, len(parents))
		for i, p := range parents {
			tree[i] = impl.Segment{Name: string([]byte{name(i)}), Size: size(i), Parent: p}
		}
		return tree
	}
	return [][]impl.Segment{
		treeWithParents(parents...),
		fill(func(i int) byte { return byte('H' - i) }, func(i int) int { return 1 }),
		fill(func(i int) byte { return "DGBHACFE"[i] }, func(i int) int { return []int{2, 7, 1, 8, 2, 8, 1, 5}[i] }),
		fill(func(i int) byte { return "CAFEHBDG"[i] }, func(i int) int { return len(parents) - i }),
	}
}

func TestRoomOfAllTrees(t *testing.T) {
	for n := 1; n <= impl.MaxSegments; n++ {
		for _, parents := range preorders(n) {
			for _, tree := range treesOfShape(parents) {
				tellRoom(t, tree)
			}
		}
	}
}

func TestRoomOfNoSegment(t *testing.T) {
	tree := mustParse(t, "A4(B3,C5(D1,E2))")
	for _, name := range []string{"", "F", "H", "I", "a", "AB", "ACE", "A4", " A", "A ", "\xff", "\x00"} {
		checkNoPlace(t, tree, name)
		for _, other := range []string{"A", "E"} {
			checkNoPair(t, tree, name, other)
			checkNoPair(t, tree, other, name)
		}
	}
}

func TestAddressesOfNoSegment(t *testing.T) {
	for _, text := range []string{"A4(B3,C5(D1,E2))", "A1", "A99(B99(C99(D99(E99(F99(G99(H99)))))))"} {
		for _, address := range []int{-1, -2, -4, 793, 1000, math.MaxInt, math.MinInt, math.MaxInt32, 1 << 32, -1 << 32} {
			checkNoAddress(t, mustParse(t, text), address)
		}
	}
}

// checkNoPlace checks what is returned for a name that no segment of a valid tree has.
func checkNoPlace(t *testing.T, tree []impl.Segment, name string) {
	t.Helper()
	if begin, end := impl.AddressOf(tree, name), impl.EndOf(tree, name); begin != -1 || end != -1 {
		t.Errorf("AddressOf, EndOf(%v, %q) = %d, %d", tree, name, begin, end)
	}
	checkNoPair(t, tree, name, name)
}

// checkNoPair checks what is returned for two names of which at least one is that of no segment.
func checkNoPair(t *testing.T, tree []impl.Segment, a, b string) {
	t.Helper()
	if impl.LieTogether(tree, a, b) {
		t.Errorf("LieTogether(%v, %q, %q)", tree, a, b)
	}
	if shared := impl.Overlap(tree, a, b); shared != -1 {
		t.Errorf("Overlap(%v, %q, %q) = %d", tree, a, b, shared)
	}
}

func TestRoomOfInvalidTrees(t *testing.T) {
	for _, tree := range invalidTrees() {
		if room, saved := impl.RoomOf(tree), impl.SavedRoom(tree); room != -1 || saved != -1 {
			t.Errorf("RoomOf, SavedRoom(%v) = %d, %d", tree, room, saved)
		}
		if path, ok := impl.LongestPath(tree); path != "" || ok {
			t.Errorf("LongestPath(%v) = %q, %v", tree, path, ok)
		}
		if where, ok := impl.MapOf(tree); where != "" || ok {
			t.Errorf("MapOf(%v) = %q, %v", tree, where, ok)
		}
		for _, address := range []int{-1, 0, 1, 2, 5} {
			checkNoAddress(t, tree, address)
		}
		for _, name := range []string{"A", "B", "C", "I", ""} {
			checkNoPlace(t, tree, name)
			checkNoPair(t, tree, "B", name)
		}
	}
}

func TestRoomChangesNoTree(t *testing.T) {
	row := mustParse(t, "A4(B3,C5(D1,E2),F1)")
	kept := slices.Clone(row)
	tellRoom(t, row[:5])
	if !slices.Equal(row, kept) {
		t.Errorf("a function changed its argument to %v", row)
	}
}
