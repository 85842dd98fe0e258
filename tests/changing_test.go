package tests

import (
	"fmt"
	"math"
	"slices"
	"strings"
	"testing"

	"loop.example/segmentrooms/impl"
)

// A changing is what becomes of a tree by a change of one segment, as texts that are empty if there is no such tree,
// and how much the segment can grow.
type changing struct {
	merged string
	moved  string
	sub    string
	pruned string
	left   int
}

// A family tells of each segment, by its name, the name of its parent, which is empty for the root.
type family map[string]string

func familyOf(tree []impl.Segment) family {
	parents := family{}
	for i, s := range tree {
		above := pathIn(tree, i)
		parents[s.Name] = ""
		if i > 0 {
			parents[s.Name] = above[len(above)-2 : len(above)-1]
		}
	}
	return parents
}

// write returns the text of a segment and all below it, with the sizes of a list and in its order.
func (f family) write(list []impl.Segment, name string) string {
	var top impl.Segment
	var below []string
	for _, s := range list {
		if s.Name == name {
			top = s
		}
		if f[s.Name] == name {
			below = append(below, f.write(list, s.Name))
		}
	}
	return withBelow(top, strings.Join(below, ","))
}

// changingOf returns what becomes of a valid tree by changes of the segment at an index.
func changingOf(tree []impl.Segment, index int) changing {
	name, root := tree[index].Name, tree[0].Name
	want := changing{sub: familyOf(tree).write(tree, name), left: leftIn(tree, index)}
	if index == 0 {
		return want
	}
	parent := tree[index].Parent
	want.merged = mergedIn(tree, index)
	if parent != 0 {
		up := familyOf(tree)
		up[name] = up[up[name]]
		want.moved = up.write(tree, root)
	}
	without := familyOf(tree)
	delete(without, name)
	want.pruned = without.write(tree, root)
	return want
}

// mergedIn returns the text of a tree in which the segment at an index, which is not the root, is one with its parent.
func mergedIn(tree []impl.Segment, index int) string {
	name, parent := tree[index].Name, tree[index].Parent
	sizes := slices.Clone(tree)
	sizes[parent].Size += tree[index].Size
	if sizes[parent].Size > impl.MaxSize {
		return ""
	}
	parents := familyOf(tree)
	for child, above := range parents {
		if above == name {
			parents[child] = tree[parent].Name
		}
	}
	delete(parents, name)
	return parents.write(sizes, tree[0].Name)
}

// leftIn returns how often the segment at an index of a tree can grow by one before the tree takes more room.
func leftIn(tree []impl.Segment, index int) int {
	grown := slices.Clone(tree)
	left := 0
	for grown[index].Size < impl.MaxSize {
		grown[index].Size++
		if impl.RoomOf(grown) != impl.RoomOf(tree) {
			break
		}
		left++
	}
	return left
}

// tellChanging checks all that becomes of a valid tree by changes of each of its segments.
func tellChanging(t *testing.T, tree []impl.Segment) {
	t.Helper()
	for i, s := range tree {
		checkChanging(t, tree, s.Name, changingOf(tree, i))
		for _, size := range []int{1, 2, s.Size, 50, 98, 99} {
			checkResized(t, tree, i, size)
		}
	}
}

func checkChanging(t *testing.T, tree []impl.Segment, name string, want changing) {
	t.Helper()
	for _, c := range []struct {
		title  string
		change func(tree []impl.Segment, name string) ([]impl.Segment, bool)
		want   string
	}{
		{"MergeIn", impl.MergeIn, want.merged},
		{"MoveUp", impl.MoveUp, want.moved},
		{"SubTree", impl.SubTree, want.sub},
		{"Prune", impl.Prune, want.pruned},
	} {
		got, ok := c.change(tree, name)
		if impl.FormatTree(got) != c.want || ok != (c.want != "") || !ok && len(got) != 0 {
			t.Fatalf("%s(%v, %s) = %v, %v, not %q", c.title, tree, name, got, ok, c.want)
		}
	}
	if left := impl.RoomLeft(tree, name); left != want.left {
		t.Fatalf("RoomLeft(%v, %s) = %d, not %d", tree, name, left, want.left)
	}
}

// checkChanged checks that what becomes of a tree is as written out, also by the second reckoning of it.
func checkChanged(t *testing.T, text, name string, want changing) {
	t.Helper()
	tree := mustParse(t, text)
	checkChanging(t, tree, name, want)
	index := slices.IndexFunc(tree, func(s impl.Segment) bool { return s.Name == name })
	if second := changingOf(tree, index); second != want {
		t.Fatalf("changes of %s within %s are reckoned as %v, not %v", name, text, second, want)
	}
}

func checkResized(t *testing.T, tree []impl.Segment, index, size int) {
	t.Helper()
	want := slices.Clone(tree)
	want[index].Size = size
	got, ok := impl.Resize(tree, tree[index].Name, size)
	if !slices.Equal(got, want) || !ok {
		t.Fatalf("Resize(%v, %s, %d) = %v, %v", tree, tree[index].Name, size, got, ok)
	}
}

func checkNotResized(t *testing.T, tree []impl.Segment, name string, size int) {
	t.Helper()
	if got, ok := impl.Resize(tree, name, size); len(got) != 0 || ok {
		t.Errorf("Resize(%v, %q, %d) = %v, %v", tree, name, size, got, ok)
	}
}

// checkNotChanged checks what is returned for lists of segments that are no tree and for names of no segment.
func checkNotChanged(t *testing.T, tree []impl.Segment, name string) {
	t.Helper()
	checkChanging(t, tree, name, changing{left: -1})
	for _, size := range []int{-1, 0, 1, 3, 99, 100} {
		checkNotResized(t, tree, name, size)
	}
	for _, trace := range []string{"", "A", "B", "B(A)", "(", name} {
		for _, other := range []string{"A", "B", "C", "", name} {
			checkNoNames(t, tree, trace, name, other)
			checkNoNames(t, tree, trace, other, name)
		}
	}
}

// tellNames checks a valid trace in which each segment of a tree stands for each one.
func tellNames(t *testing.T, tree []impl.Segment, trace string) {
	t.Helper()
	for _, s := range tree {
		for _, other := range tree {
			want := strings.Map(func(c rune) rune {
				if string(c) == s.Name {
					return rune(other.Name[0])
				}
				return c
			}, trace)
			checkNames(t, tree, trace, s.Name, other.Name, want)
		}
	}
}

func checkNames(t *testing.T, tree []impl.Segment, trace, name, other, want string) {
	t.Helper()
	got, ok := impl.NamesIn(tree, trace, name, other)
	if got != want || !ok {
		t.Fatalf("NamesIn(%v, %q, %s, %s) = %q, %v, not %q", tree, trace, name, other, got, ok, want)
	}
	if !impl.TraceValid(tree, got) || impl.CountCalls(tree, got) != impl.CountCalls(tree, trace) || impl.DepthOf(tree, got) != impl.DepthOf(tree, trace) {
		t.Fatalf("NamesIn(%v, %q, %s, %s) = %q, which is no trace of the same calls", tree, trace, name, other, got)
	}
}

func checkNoNames(t *testing.T, tree []impl.Segment, trace, name, other string) {
	t.Helper()
	if got, ok := impl.NamesIn(tree, trace, name, other); got != "" || ok {
		t.Errorf("NamesIn(%v, %.100q, %q, %q) = %q, %v", tree, trace, name, other, got, ok)
	}
}

func TestChangesOfTheDocument(t *testing.T) {
	for name, want := range map[string]changing{
		"A": {"", "", "A4(B3,C5(D1,E2))", "", 0},
		"B": {"A7(C5(D1,E2))", "", "B3", "A4(C5(D1,E2))", 4},
		"C": {"A9(B3,D1,E2)", "", "C5(D1,E2)", "A4(B3)", 0},
		"D": {"A4(B3,C6(E2))", "A4(B3,C5(E2),D1)", "D1", "A4(B3,C5(E2))", 1},
		"E": {"A4(B3,C7(D1))", "A4(B3,C5(D1),E2)", "E2", "A4(B3,C5(D1))", 0},
	} {
		checkChanged(t, "A4(B3,C5(D1,E2))", name, want)
	}
	tree := mustParse(t, "A4(B3,C5(D1,E2))")
	checkResized(t, tree, 1, 7)
	checkNames(t, tree, "B(D)CB", "B", "E", "E(D)CE")
}

// TestChildrenThatChangeTheirPlace checks children of different parents that become those of one, between others of it or behind them.
func TestChildrenThatChangeTheirPlace(t *testing.T) {
	for name, want := range map[string]changing{
		"D": {"", "", "D4(H3(A1,B1(C9)),E5(F1,G2))", "", 0},
		"H": {"D7(A1,B1(C9),E5(F1,G2))", "", "H3(A1,B1(C9))", "D4(E5(F1,G2))", 0},
		"A": {"D4(H4(B1(C9)),E5(F1,G2))", "D4(H3(B1(C9)),A1,E5(F1,G2))", "A1", "D4(H3(B1(C9)),E5(F1,G2))", 9},
		"B": {"D4(H4(A1,C9),E5(F1,G2))", "D4(H3(A1),B1(C9),E5(F1,G2))", "B1(C9)", "D4(H3(A1),E5(F1,G2))", 0},
		"C": {"D4(H3(A1,B10),E5(F1,G2))", "D4(H3(A1,B1,C9),E5(F1,G2))", "C9", "D4(H3(A1,B1),E5(F1,G2))", 0},
		"E": {"D9(H3(A1,B1(C9)),F1,G2)", "", "E5(F1,G2)", "D4(H3(A1,B1(C9)))", 6},
		"F": {"D4(H3(A1,B1(C9)),E6(G2))", "D4(H3(A1,B1(C9)),E5(G2),F1)", "F1", "D4(H3(A1,B1(C9)),E5(G2))", 7},
		"G": {"D4(H3(A1,B1(C9)),E7(F1))", "D4(H3(A1,B1(C9)),E5(F1),G2)", "G2", "D4(H3(A1,B1(C9)),E5(F1))", 6},
	} {
		checkChanged(t, "D4(H3(A1,B1(C9)),E5(F1,G2))", name, want)
	}
	for _, c := range []struct {
		text, name string
		want       changing
	}{
		{"A1(B1,C1(D1,E1),F1)", "C", changing{"A2(B1,D1,E1,F1)", "", "C1(D1,E1)", "A1(B1,F1)", 0}},
		{"A1(F1,C1(E1,D1),B1)", "C", changing{"A2(F1,E1,D1,B1)", "", "C1(E1,D1)", "A1(F1,B1)", 0}},
		{"A1(B1,C1(D1,E1,G1),F1)", "D", changing{"A1(B1,C2(E1,G1),F1)", "A1(B1,C1(E1,G1),D1,F1)", "D1", "A1(B1,C1(E1,G1),F1)", 0}},
		{"A1(B1,C1(D1,E1,G1),F1)", "E", changing{"A1(B1,C2(D1,G1),F1)", "A1(B1,C1(D1,G1),E1,F1)", "E1", "A1(B1,C1(D1,G1),F1)", 0}},
		{"A1(B1,C1(D1,E1,G1),F1)", "G", changing{"A1(B1,C2(D1,E1),F1)", "A1(B1,C1(D1,E1),G1,F1)", "G1", "A1(B1,C1(D1,E1),F1)", 0}},
		{"A1(B1,C1(D1),F1,G1)", "D", changing{"A1(B1,C2,F1,G1)", "A1(B1,C1,D1,F1,G1)", "D1", "A1(B1,C1,F1,G1)", 0}},
		{"A1(B2(C3(D4(E5,F6),G7),H8))", "C", changing{"A1(B5(D4(E5,F6),G7,H8))", "A1(B2(H8),C3(D4(E5,F6),G7))", "C3(D4(E5,F6),G7)", "A1(B2(H8))", 0}},
		{"A1(B2(C3(D4(E5,F6),G7),H8))", "D", changing{"A1(B2(C7(E5,F6,G7),H8))", "A1(B2(C3(G7),D4(E5,F6),H8))", "D4(E5,F6)", "A1(B2(C3(G7),H8))", 0}},
		{"A1(B2(C3(D4(E5,F6),G7),H8))", "H", changing{"A1(B10(C3(D4(E5,F6),G7)))", "A1(B2(C3(D4(E5,F6),G7)),H8)", "H8", "A1(B2(C3(D4(E5,F6),G7)))", 5}},
		{"A1(B2(C3))", "C", changing{"A1(B5)", "A1(B2,C3)", "C3", "A1(B2)", 0}},
		{"A1(B2(C3))", "B", changing{"A3(C3)", "", "B2(C3)", "A1", 0}},
		{"H1(G1(F1(E1(D1(C1(B1(A1)))))))", "A", changing{"H1(G1(F1(E1(D1(C1(B2))))))", "H1(G1(F1(E1(D1(C1(B1,A1))))))", "A1", "H1(G1(F1(E1(D1(C1(B1))))))", 0}},
		{"H1(G1(F1(E1(D1(C1(B1(A1)))))))", "F", changing{"H1(G2(E1(D1(C1(B1(A1))))))", "H1(G1,F1(E1(D1(C1(B1(A1))))))", "F1(E1(D1(C1(B1(A1)))))", "H1(G1)", 0}},
	} {
		checkChanged(t, c.text, c.name, c.want)
	}
}

func TestChangesOfOneSegment(t *testing.T) {
	for _, text := range []string{"A1", "D50", "H99"} {
		checkChanged(t, text, text[:1], changing{"", "", text, "", 0})
		for _, size := range []int{1, 2, 50, 98, 99} {
			checkResized(t, mustParse(t, text), 0, size)
		}
	}
}

// TestSizesThatGetTooGreat checks segments of which both sizes together are about the greatest size.
func TestSizesThatGetTooGreat(t *testing.T) {
	for _, c := range []struct{ text, name, want string }{
		{"A98(B1)", "B", "A99"}, {"A1(B98)", "B", "A99"}, {"A49(B50)", "B", "A99"}, {"A97(B1)", "B", "A98"},
		{"A99(B1)", "B", ""}, {"A1(B99)", "B", ""}, {"A50(B50)", "B", ""}, {"A98(B2)", "B", ""}, {"A99(B99)", "B", ""}, {"A99(B2)", "B", ""},
		{"A99(B98(C1))", "C", "A99(B99)"}, {"A99(B98(C2))", "C", ""}, {"A99(B98(C1))", "B", ""}, {"A1(B98(C99))", "B", "A99(C99)"}, {"A1(B98(C99))", "C", ""},
		{"A99(B99(C50(D49)))", "D", "A99(B99(C99))"}, {"A99(B99(C50(D50)))", "D", ""}, {"A9(B90(C99,D99),E1)", "B", "A99(C99,D99,E1)"}, {"A9(B91(C99,D99),E1)", "B", ""},
		{"H99(G99(F99(E99(D99(C99(B98(A1)))))))", "A", "H99(G99(F99(E99(D99(C99(B99))))))"}, {"H99(G99(F99(E99(D99(C99(B99(A1)))))))", "A", ""},
	} {
		tree := mustParse(t, c.text)
		got, ok := impl.MergeIn(tree, c.name)
		if impl.FormatTree(got) != c.want || ok != (c.want != "") || !ok && len(got) != 0 {
			t.Errorf("MergeIn(%s, %s) = %v, %v", c.text, c.name, got, ok)
		}
		tellChanging(t, tree)
	}
	for own := 1; own <= impl.MaxSize; own++ {
		for above := 1; above <= impl.MaxSize; above++ {
			tree := []impl.Segment{{Name: "B", Size: above, Parent: -1}, {Name: "A", Size: own, Parent: 0}}
			got, ok := impl.MergeIn(tree, "A")
			if fits := own+above <= 99; ok != fits || fits && !slices.Equal(got, []impl.Segment{{Name: "B", Size: own + above, Parent: -1}}) || !fits && len(got) != 0 {
				t.Fatalf("MergeIn(%v, A) = %v, %v", tree, got, ok)
			}
		}
	}
}

func TestSizesThatAreNone(t *testing.T) {
	for _, text := range []string{"A1", "A4(B3,C5(D1,E2))", "H99(G99(F99(E99(D99(C99(B99(A99)))))))"} {
		tree := mustParse(t, text)
		for _, s := range tree {
			for _, size := range []int{0, -1, -s.Size, 100, 101, 256, 257, 1<<32 + 1, 1 << 40, math.MaxInt, math.MinInt, math.MinInt + 1} {
				checkNotResized(t, tree, s.Name, size)
			}
		}
	}
	tree := mustParse(t, "A4(B3,C5(D1,E2))")
	for size := -200; size <= 300; size++ {
		if size >= 1 && size <= 99 {
			checkResized(t, tree, 3, size)
		} else {
			checkNotResized(t, tree, "D", size)
		}
	}
}

// TestRoomThatIsLeft checks segments that can grow as far as the longest path, or as far as the greatest size.
func TestRoomThatIsLeft(t *testing.T) {
	for _, c := range []struct{ text, left string }{
		{"A1(B1)", "0 0"}, {"A99(B99)", "0 0"}, {"A1(B1,C1)", "0 0 0"}, {"A1(B1,C2)", "0 1 0"}, {"A1(B9,C2)", "0 0 7"}, {"A50(B99,C1)", "0 0 98"}, {"A50(B99,C98)", "0 0 1"}, {"A1(B99,C99)", "0 0 0"},
		// C ends where the room does, and so does what lies below it or beside it.
		{"A1(B1,C1(D1))", "0 1 0 0"}, {"A1(B2,C1(D1))", "0 0 0 0"}, {"A1(B3,C1(D1))", "0 0 1 1"}, {"A1(B4,C1(D1,E2))", "0 0 1 2 1"}, {"A1(B9(C1,D3),E1)", "0 0 2 0 11"},
		// There is more room than the greatest size allows.
		{"A1(B99(C99),D98)", "0 0 0 1"}, {"A1(B99(C99),D99)", "0 0 0 0"}, {"A1(B99(C99),D1)", "0 0 0 98"}, {"A1(B99(C99),D50)", "0 0 0 49"},
		{"A1(B99(C99),D1(E99))", "0 0 0 98 0"}, {"A1(B99(C99),D2(E98))", "0 0 0 97 1"}, {"A1(B99(C99),D2(E99))", "0 0 0 97 0"}, {"A1(B99(C98),D1(E99))", "0 0 0 97 0"}, {"A1(B99(C98),D1(E98))", "0 0 0 98 1"},
		{"A1(B99(C99(D99)),E97(F98))", "0 0 0 0 2 1"}, {"A99(B99(C99(D99(E99(F99)))),G50(H49))", "0 0 0 0 0 0 49 50"},
		{"A99(B99,C99,D99,E99,F99,G99,H99)", "0 0 0 0 0 0 0 0"}, {"A1(B1,C2,D3,E4,F5,G6,H7)", "0 6 5 4 3 2 1 0"}, {"H1(G1(F1(E1(D1(C1(B1(A1)))))))", "0 0 0 0 0 0 0 0"},
	} {
		tree := mustParse(t, c.text)
		var left []int
		for i, s := range tree {
			left = append(left, impl.RoomLeft(tree, s.Name))
			if want := leftIn(tree, i); left[i] != want {
				t.Errorf("RoomLeft(%s, %s) = %d, not %d", c.text, s.Name, left[i], want)
			}
		}
		if fmt.Sprint(left) != "["+c.left+"]" {
			t.Errorf("RoomLeft(%s, ..) = %v, not %s", c.text, left, c.left)
		}
	}
}

func TestChangesOfAllTrees(t *testing.T) {
	for n := 1; n <= impl.MaxSegments; n++ {
		for _, parents := range preorders(n) {
			for _, tree := range treesOfShape(parents) {
				tellChanging(t, tree)
			}
		}
	}
}

// TestChangesOfLargeSegments checks trees of all shapes with sizes of which some are too great to be added.
func TestChangesOfLargeSegments(t *testing.T) {
	var c chooser
	for n := 2; n <= impl.MaxSegments; n++ {
		for _, parents := range preorders(n) {
			tree := treesOfShape(parents)[2]
			for i := range tree {
				tree[i].Size = []int{1 + c.below(99), 98 + c.below(2), 1 + c.below(2), 48 + c.below(4)}[c.below(4)]
			}
			tellChanging(t, tree)
		}
	}
}

// TestChangedTreesHaveTheSegmentsThatAreLeft checks which segments of trees of all shapes are left, in which order, and of which sizes.
func TestChangedTreesHaveTheSegmentsThatAreLeft(t *testing.T) {
	for n := 1; n <= 6; n++ {
		for _, parents := range preorders(n) {
			for _, tree := range treesOfShape(parents) {
				for i, s := range tree {
					tellLeft(t, tree, i)
					if sub, _ := impl.SubTree(tree, s.Name); i == 0 && !slices.Equal(sub, tree) {
						t.Fatalf("SubTree(%v, %s) = %v", tree, s.Name, sub)
					}
				}
			}
		}
	}
}

// tellLeft checks the names and sizes of what is left of a tree if the segment at an index is changed.
func tellLeft(t *testing.T, tree []impl.Segment, index int) {
	t.Helper()
	name := tree[index].Name
	all, within, outside := "", "", ""
	for i, s := range tree {
		all += s.Name
		if strings.Contains(pathIn(tree, i), name) {
			within += s.Name
		} else {
			outside += s.Name
		}
	}
	sub, _ := impl.SubTree(tree, name)
	checkLeft(t, sub, within, costIn(tree, within))
	if index == 0 {
		return
	}
	pruned, _ := impl.Prune(tree, name)
	checkLeft(t, pruned, outside, costIn(tree, outside))
	merged, _ := impl.MergeIn(tree, name)
	checkLeft(t, merged, strings.Replace(all, name, "", 1), costIn(tree, all))
	if tree[index].Parent == 0 {
		return
	}
	moved, _ := impl.MoveUp(tree, name)
	checkSame(t, tree, moved, true)
	path := pathIn(tree, index)
	above := path[len(path)-2 : len(path)-1]
	for i, s := range tree {
		want := pathIn(tree, i)
		if strings.Contains(want, name) {
			want = strings.Replace(want, above, "", 1)
		}
		if got, ok := impl.PathOf(moved, s.Name); got != want || !ok {
			t.Fatalf("MoveUp(%v, %s) = %v, in which the path of %s is %q, not %q", tree, name, moved, s.Name, got, want)
		}
	}
}

func checkLeft(t *testing.T, tree []impl.Segment, names string, total int) {
	t.Helper()
	got, ok := impl.NamesOf(tree)
	if got != names || !ok || impl.TotalSize(tree) != total {
		t.Fatalf("%v has %q, %v, of a size of %d, not %q of %d", tree, got, ok, impl.TotalSize(tree), names, total)
	}
}

// TestChangesOneAfterTheOther checks segments that move up to the root, that are merged into one, and that are pruned one by one.
func TestChangesOneAfterTheOther(t *testing.T) {
	for n := 1; n <= impl.MaxSegments; n++ {
		for _, parents := range preorders(n) {
			tree := treeWithParents(parents...)
			for i, s := range tree {
				moves := 0
				at := tree
				for next, ok := impl.MoveUp(at, s.Name); ok; next, ok = impl.MoveUp(at, s.Name) {
					at = next
					moves++
				}
				if path, _ := impl.PathOf(at, s.Name); i > 0 && path != "A"+s.Name || moves != max(0, len(pathIn(tree, i))-2) {
					t.Fatalf("%s moves up %d times within %v, to %q", s.Name, moves, tree, path)
				}
			}
			merged, pruned := tree, tree
			for i := len(tree) - 1; i > 0; i-- {
				merged, _ = impl.MergeIn(merged, tree[i].Name)
				pruned, _ = impl.Prune(pruned, tree[i].Name)
				if !slices.Equal(pruned, tree[:i]) {
					t.Fatalf("pruned from %s on, %v is %v", tree[i].Name, tree, pruned)
				}
			}
			if !slices.Equal(merged, []impl.Segment{{Name: "A", Size: n * (n + 1) / 2, Parent: -1}}) {
				t.Fatalf("all of it merged in, %v is %v", tree, merged)
			}
		}
	}
}

func TestNamesOfTraces(t *testing.T) {
	tree := mustParse(t, "A4(B3,C5(D1,E2))")
	for _, c := range []struct{ trace, name, other, want string }{
		{"", "A", "A", ""}, {"", "B", "C", ""}, {"B", "B", "B", "B"}, {"B", "B", "C", "C"}, {"B", "C", "B", "B"}, {"B", "C", "D", "B"}, {"B", "B", "A", "A"}, {"A", "A", "B", "B"},
		{"B(D)B", "B", "C", "C(D)C"}, {"B(D)B", "D", "B", "B(B)B"}, {"B(B)B", "B", "D", "D(D)D"}, {"B(D)C", "C", "E", "B(D)E"}, {"B(D)C", "E", "C", "B(D)C"}, {"BCBC", "B", "C", "CCCC"}, {"BCBC", "C", "B", "BBBB"},
		{"A(A(A)A)A", "A", "E", "E(E(E)E)E"}, {"C(D(E(B)))", "D", "C", "C(C(E(B)))"}, {"C(D(E(B)))", "B", "A", "C(D(E(A)))"},
	} {
		checkNames(t, tree, c.trace, c.name, c.other, c.want)
		tellNames(t, tree, c.trace)
	}
	one := mustParse(t, "B7")
	for _, trace := range []string{"", "B", "BB", "B(B)", nested("BBBBBBBB"), strings.Repeat("B", 80)} {
		checkNames(t, one, trace, "B", "B", trace)
	}
	for _, trace := range tracesOver("ABC", 6) {
		tellNames(t, mustParse(t, "B2(A1,C3)"), trace)
	}
	for _, trace := range []string{"ABCDEFGH", nested("ABCDEFGH"), nested("HGFEDCBA") + "A(BC)D(EF)G(H)", strings.Repeat("ABCDEFGH", 10)} {
		tellNames(t, mustParse(t, "D4(H3(A1,B1(C9)),E5(F1,G2))"), trace)
	}
}

// TestNamesOfLongestTraces checks traces of 80 bytes and of eight calls within each other, and ones of more.
func TestNamesOfLongestTraces(t *testing.T) {
	tree := mustParse(t, "A4(B3,C5(D1,E2))")
	for _, trace := range []string{strings.Repeat("B", 80), strings.Repeat("BC", 40), strings.Repeat("B(D)", 20), "B(" + strings.Repeat("D", 77) + ")", nested("BBBBBBBB"), nested("BCDEABCD") + nested("DCBAEDCB"), "C" + nested("BBBBBBBB")} {
		tellNames(t, tree, trace)
	}
	for _, trace := range []string{
		strings.Repeat("B", 81), strings.Repeat("BC", 41), strings.Repeat("B(D)", 20) + "B", "B(" + strings.Repeat("D", 78) + ")", strings.Repeat("B", 1000000), strings.Repeat("B(", 1000000),
		nested("BBBBBBBBB"), nested("BCDEABCDE"), "C" + nested("BBBBBBBBB"),
	} {
		for _, name := range []string{"A", "B", "D"} {
			checkNoNames(t, tree, trace, name, "C")
			checkNoNames(t, tree, trace, name, name)
			checkNoNames(t, tree, trace, "C", name)
		}
	}
}

func TestNamesOfTextsOfNoTrace(t *testing.T) {
	tree := mustParse(t, "A4(B3,C5(D1,E2))")
	for _, trace := range textsOfNoTrace() {
		for _, s := range tree {
			checkNoNames(t, tree, trace, s.Name, "A")
			checkNoNames(t, tree, trace, "A", s.Name)
		}
	}
	// A trace that would be one with the other name is none with its own.
	checkNoNames(t, tree, "BF", "F", "B")
	checkNoNames(t, tree, "B(F)", "F", "C")
	checkNoNames(t, mustParse(t, "B1"), "A", "A", "B")
	checkNoNames(t, mustParse(t, "B1"), "B", "B", "A")
}

func TestChangesOfNoSegment(t *testing.T) {
	for _, text := range []string{"A4(B3,C5(D1,E2))", "A1", "A99(B99(C99(D99)))"} {
		tree := mustParse(t, text)
		for _, name := range []string{"", "F", "H", "I", "@", "a", "b", "AB", "AC", "BC", "A4", " A", "A ", "(", ")", "B(D)", "\xff", "\x00", "é", "Ａ", strings.Repeat("A", 1000)} {
			checkNotChanged(t, tree, name)
		}
	}
}

func TestChangesOfInvalidTrees(t *testing.T) {
	for _, tree := range invalidTrees() {
		for _, name := range []string{"A", "B", "C", "I", "", "AB"} {
			checkNotChanged(t, tree, name)
		}
		for _, s := range tree[:min(len(tree), 10)] {
			checkNotChanged(t, tree, s.Name)
		}
	}
}

func TestChangesChangeNothing(t *testing.T) {
	row := mustParse(t, "A4(B3,C5(D1,E2),F1)")
	kept := slices.Clone(row)
	tellChanging(t, row[:5])
	tellNames(t, row[:5], "B(D)C")
	if !slices.Equal(row, kept) {
		t.Errorf("a function changed its argument to %v", row)
	}
}

func TestChangesShareNothing(t *testing.T) {
	tree := mustParse(t, "A4(B3,C5(D1,E2))")
	kept := slices.Clone(tree)
	same := func(tree []impl.Segment, name string) ([]impl.Segment, bool) { return impl.Resize(tree, name, 5) }
	for i, change := range []func(tree []impl.Segment, name string) ([]impl.Segment, bool){impl.MergeIn, impl.MoveUp, impl.SubTree, impl.Prune, same} {
		for _, s := range tree {
			one, _ := change(tree, s.Name)
			two, _ := change(tree, s.Name)
			want := slices.Clone(one)
			clear(two[:cap(two)])
			if !slices.Equal(one, want) || !slices.Equal(tree, kept) {
				t.Errorf("function %d: a change of one result changes another one to %v or the tree to %v", i, one, tree)
			}
		}
	}
}
