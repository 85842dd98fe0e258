package tests

import (
	"slices"
	"strconv"
	"strings"
	"testing"

	"loop.example/segmentrooms/impl"
)

// mustParse returns the tree of a text that is one.
func mustParse(t *testing.T, text string) []impl.Segment {
	t.Helper()
	tree, ok := impl.ParseTree(text)
	if !ok {
		t.Fatalf("ParseTree(%q) = %v, false", text, tree)
	}
	return tree
}

// treeWithParents returns segments A, B, .. of sizes 1, 2, .. with these parents.
func treeWithParents(parents ...int) []impl.Segment {
	var tree []impl.Segment
	for i, p := range parents {
		tree = append(tree, impl.Segment{Name: string(rune('A' + i)), Size: i + 1, Parent: p})
	}
	return tree
}

// parentLists returns all lists of n numbers from -2 to n.
func parentLists(n int) [][]int {
	lists := [][]int{nil}
	for range n {
		var longer [][]int
		for _, l := range lists {
			for p := -2; p <= n; p++ {
				longer = append(longer, append(slices.Clone(l), p))
			}
		}
		lists = longer
	}
	return lists
}

// preorders returns the parents of all trees of n segments, made the other way round than TreeValid checks them:
// a tree of n is one of n-1 to which a last segment is added below the right edge.
func preorders(n int) [][]int {
	if n == 1 {
		return [][]int{{-1}}
	}
	var all [][]int
	for _, l := range preorders(n - 1) {
		for _, p := range rightEdge(l) {
			all = append(all, append(slices.Clone(l), p))
		}
	}
	return all
}

// rightEdge returns the indices that have no segment behind them but those below them.
func rightEdge(parents []int) []int {
	var edge []int
	for i := range parents {
		below := map[int]bool{i: true}
		whole := true
		for j := i + 1; j < len(parents); j++ {
			below[j] = below[parents[j]]
			whole = whole && below[j]
		}
		if whole {
			edge = append(edge, i)
		}
	}
	return edge
}

// formatted returns the text of a valid tree, made from the depths of its segments rather than by recursion.
func formatted(tree []impl.Segment) string {
	out := ""
	depth := map[int]int{-1: 0}
	for i, s := range tree {
		depth[i] = depth[s.Parent] + 1
		if i > 0 {
			if s.Parent == i-1 {
				out += "("
			} else {
				out += strings.Repeat(")", depth[i-1]-depth[i]) + ","
			}
		}
		out += s.Name + strconv.Itoa(s.Size)
	}
	return out + strings.Repeat(")", depth[len(tree)-1]-1)
}

// pathIn returns the path of the segment at an index, from itself upwards.
func pathIn(tree []impl.Segment, index int) string {
	path := ""
	for i := index; i >= 0; i = tree[i].Parent {
		path = tree[i].Name + path
	}
	return path
}

func TestTreeOfTheDocument(t *testing.T) {
	tree := mustParse(t, "A4(B3,C5(D1,E2))")
	want := []impl.Segment{{Name: "A", Size: 4, Parent: -1}, {Name: "B", Size: 3, Parent: 0}, {Name: "C", Size: 5, Parent: 0}, {Name: "D", Size: 1, Parent: 2}, {Name: "E", Size: 2, Parent: 2}}
	if !slices.Equal(tree, want) {
		t.Errorf("ParseTree = %v", tree)
	}
	if text := impl.FormatTree(want); text != "A4(B3,C5(D1,E2))" {
		t.Errorf("FormatTree = %q", text)
	}
	if path, ok := impl.PathOf(tree, "E"); path != "ACE" || !ok {
		t.Errorf("PathOf E = %q, %v", path, ok)
	}
	if names, ok := impl.NamesOf(tree); names != "ABCDE" || !ok {
		t.Errorf("NamesOf = %q, %v", names, ok)
	}
	for name, children := range map[string]string{"A": "BC", "B": "", "C": "DE", "D": "", "E": ""} {
		if got, ok := impl.ChildrenOf(tree, name); got != children || !ok {
			t.Errorf("ChildrenOf %s = %q, %v", name, got, ok)
		}
	}
	for name, size := range map[string]int{"A": 4, "B": 3, "C": 5, "D": 1, "E": 2} {
		if got := impl.SizeOf(tree, name); got != size {
			t.Errorf("SizeOf %s = %d", name, got)
		}
	}
	if total := impl.TotalSize(tree); total != 15 {
		t.Errorf("TotalSize = %d", total)
	}
}

func TestCommonSegments(t *testing.T) {
	tree := mustParse(t, "D4(H3(A1,B1(C9)),E5(F1,G2))")
	for _, c := range []struct{ a, b, want string }{
		{"C", "C", "C"}, {"D", "D", "D"}, {"C", "D", "D"}, {"C", "A", "H"}, {"C", "B", "B"}, {"C", "H", "H"},
		{"C", "G", "D"}, {"F", "G", "E"}, {"H", "E", "D"}, {"A", "F", "D"},
	} {
		for _, pair := range [][2]string{{c.a, c.b}, {c.b, c.a}} {
			if got, ok := impl.CommonOf(tree, pair[0], pair[1]); got != c.want || !ok {
				t.Errorf("CommonOf(%s, %s) = %q, %v", pair[0], pair[1], got, ok)
			}
		}
	}
	for _, pair := range [][2]string{{"C", "I"}, {"I", "C"}, {"", "C"}, {"C", ""}, {"", ""}, {"CB", "C"}, {"C", "HB"}, {"c", "C"}} {
		if got, ok := impl.CommonOf(tree, pair[0], pair[1]); got != "" || ok {
			t.Errorf("CommonOf(%q, %q) = %q, %v", pair[0], pair[1], got, ok)
		}
	}
}

func TestTreeOfOneSegment(t *testing.T) {
	for _, s := range []impl.Segment{{Name: "A", Size: 1, Parent: -1}, {Name: "H", Size: 99, Parent: -1}, {Name: "D", Size: 10, Parent: -1}} {
		tree := []impl.Segment{s}
		text := s.Name + strconv.Itoa(s.Size)
		parsed, ok := impl.ParseTree(text)
		if !impl.TreeValid(tree) || impl.FormatTree(tree) != text || !ok || !slices.Equal(parsed, tree) {
			t.Errorf("%v: ParseTree(%q) = %v, %v", tree, text, parsed, ok)
		}
		path, one := impl.PathOf(tree, s.Name)
		children, two := impl.ChildrenOf(tree, s.Name)
		names, three := impl.NamesOf(tree)
		common, four := impl.CommonOf(tree, s.Name, s.Name)
		if path != s.Name || children != "" || names != s.Name || common != s.Name || !one || !two || !three || !four {
			t.Errorf("%s: %q, %q, %q, %q", text, path, children, names, common)
		}
		if impl.SizeOf(tree, s.Name) != s.Size || impl.TotalSize(tree) != s.Size {
			t.Errorf("%s: %d, %d", text, impl.SizeOf(tree, s.Name), impl.TotalSize(tree))
		}
	}
}

func TestLargestTrees(t *testing.T) {
	for _, text := range []string{
		"A99(B99,C99,D99,E99,F99,G99,H99)",
		"H99(G99(F99(E99(D99(C99(B99(A99)))))))",
		"A99(B99(C99(D99)),E99(F99(G99),H99))",
	} {
		tree := mustParse(t, text)
		if len(tree) != impl.MaxSegments || !impl.TreeValid(tree) || impl.FormatTree(tree) != text || impl.TotalSize(tree) != impl.MaxSegments*impl.MaxSize {
			t.Errorf("%s: %v", text, tree)
		}
	}
	if path, ok := impl.PathOf(mustParse(t, "H99(G99(F99(E99(D99(C99(B99(A99)))))))"), "A"); path != "HGFEDCBA" || !ok {
		t.Errorf("PathOf A = %q, %v", path, ok)
	}
}

func TestOrdersOfSegments(t *testing.T) {
	for n := 1; n <= 4; n++ {
		trees := preorders(n)
		for _, parents := range parentLists(n) {
			want := slices.ContainsFunc(trees, func(l []int) bool { return slices.Equal(l, parents) })
			if tree := treeWithParents(parents...); impl.TreeValid(tree) != want || (impl.FormatTree(tree) != "") != want {
				t.Errorf("TreeValid(%v) is not %v", tree, want)
			}
		}
	}
}

func TestAllTreesAreTold(t *testing.T) {
	for n := 1; n <= impl.MaxSegments; n++ {
		for _, parents := range preorders(n) {
			tree := treeWithParents(parents...)
			tellTree(t, tree)
		}
	}
}

// tellTree checks all that is told of a valid tree against what its parents tell.
func tellTree(t *testing.T, tree []impl.Segment) {
	t.Helper()
	text := formatted(tree)
	if !impl.TreeValid(tree) || impl.FormatTree(tree) != text {
		t.Fatalf("FormatTree(%v) = %q, not %q", tree, impl.FormatTree(tree), text)
	}
	if parsed, ok := impl.ParseTree(text); !ok || !slices.Equal(parsed, tree) {
		t.Fatalf("ParseTree(%q) = %v, %v", text, parsed, ok)
	}
	all, total := "", 0
	for i, s := range tree {
		all += s.Name
		total += s.Size
		tellSegment(t, tree, i)
	}
	if names, ok := impl.NamesOf(tree); names != all || !ok || impl.TotalSize(tree) != total {
		t.Fatalf("%s: NamesOf = %q, %v, TotalSize = %d", text, names, ok, impl.TotalSize(tree))
	}
}

func tellSegment(t *testing.T, tree []impl.Segment, index int) {
	t.Helper()
	name := tree[index].Name
	path := pathIn(tree, index)
	if got, ok := impl.PathOf(tree, name); got != path || !ok {
		t.Fatalf("PathOf(%v, %s) = %q, %v", tree, name, got, ok)
	}
	children := ""
	for j, s := range tree {
		if s.Parent == index {
			children += s.Name
		}
		other := pathIn(tree, j)
		common := ""
		for k := 0; k < min(len(path), len(other)) && path[k] == other[k]; k++ {
			common = path[k : k+1]
		}
		if got, ok := impl.CommonOf(tree, name, s.Name); got != common || !ok {
			t.Fatalf("CommonOf(%v, %s, %s) = %q, %v", tree, name, s.Name, got, ok)
		}
	}
	if got, ok := impl.ChildrenOf(tree, name); got != children || !ok || impl.SizeOf(tree, name) != tree[index].Size {
		t.Fatalf("ChildrenOf(%v, %s) = %q, %v", tree, name, got, ok)
	}
}

// invalidTrees returns lists of segments that are no tree: none, too many, and a tree of three of which one part is not allowed.
func invalidTrees() [][]impl.Segment {
	valid := []impl.Segment{{Name: "B", Size: 2, Parent: -1}, {Name: "A", Size: 1, Parent: 0}, {Name: "C", Size: 3, Parent: 1}}
	lists := [][]impl.Segment{nil, {}, make([]impl.Segment, 1000)}
	change := func(index int, s impl.Segment) {
		bad := slices.Clone(valid)
		bad[index] = s
		lists = append(lists, bad)
	}
	for i, s := range valid {
		for _, name := range []string{"", "I", "@", "a", "AB", "A ", "1", "é", "\xff", "\x00", "Ä"} {
			change(i, impl.Segment{Name: name, Size: s.Size, Parent: s.Parent})
		}
		for _, size := range []int{0, -1, 100, 101, 1 << 40, -1 << 63} {
			change(i, impl.Segment{Name: s.Name, Size: size, Parent: s.Parent})
		}
		for _, parent := range []int{-2, 2, 3, 8, 1<<63 - 1, -1 << 63} {
			change(i, impl.Segment{Name: s.Name, Size: s.Size, Parent: parent})
		}
		for _, other := range valid[:i] {
			change(i, impl.Segment{Name: other.Name, Size: s.Size, Parent: s.Parent})
		}
	}
	for _, name := range []string{"A", "H", "I"} {
		nine := append(treeWithParents(-1, 0, 0, 0, 0, 0, 0, 0), impl.Segment{Name: name, Size: 1, Parent: 0})
		lists = append(lists, nine)
	}
	return lists
}

func TestInvalidTrees(t *testing.T) {
	for _, tree := range invalidTrees() {
		checkInvalid(t, tree)
	}
}

// checkInvalid checks what each function returns for segments that are no tree.
func checkInvalid(t *testing.T, tree []impl.Segment) {
	t.Helper()
	if impl.TreeValid(tree) || impl.FormatTree(tree) != "" || impl.TotalSize(tree) != -1 {
		t.Errorf("TreeValid(%v)", tree)
	}
	if names, ok := impl.NamesOf(tree); names != "" || ok {
		t.Errorf("NamesOf(%v) = %q, %v", tree, names, ok)
	}
	for _, name := range []string{"A", "B", "C", "I", ""} {
		checkNoSegment(t, tree, name)
	}
}

// checkNoSegment checks what is returned for a name that no segment of a valid tree has.
func checkNoSegment(t *testing.T, tree []impl.Segment, name string) {
	t.Helper()
	if path, ok := impl.PathOf(tree, name); path != "" || ok {
		t.Errorf("PathOf(%v, %q) = %q, %v", tree, name, path, ok)
	}
	if children, ok := impl.ChildrenOf(tree, name); children != "" || ok {
		t.Errorf("ChildrenOf(%v, %q) = %q, %v", tree, name, children, ok)
	}
	if common, ok := impl.CommonOf(tree, name, name); common != "" || ok {
		t.Errorf("CommonOf(%v, %q) = %q, %v", tree, name, common, ok)
	}
	if size := impl.SizeOf(tree, name); size != -1 {
		t.Errorf("SizeOf(%v, %q) = %d", tree, name, size)
	}
}

func TestNamesOfNoSegment(t *testing.T) {
	tree := mustParse(t, "A4(B3,C5(D1,E2))")
	for _, name := range []string{"", "F", "H", "I", "a", "AB", "AC", "A4", " A", "A ", "\xff", "\x00"} {
		checkNoSegment(t, tree, name)
	}
}

func TestTextsOfNoTree(t *testing.T) {
	for _, text := range []string{
		"", " ", "A", "4", "4A", "(", ")", ",", "()", "(A1)", "A1 ", " A1", "A 1", "A1\n", "A1\x00", "\x00", "\xff", "é1",
		"A0", "A00", "A01", "A001", "A100", "A999", "A+1", "A-1", "A1.0", "A1e1", "A٣", "A18446744073709551617", "A" + strings.Repeat("9", 100000),
		"I1", "@1", "a1", "AB1", "A1B1", "A1,B1", "A1(B1)C1", "A1(B1),C1", "A1(B1)(C1)",
		"A1(", "A1)", "A1()", "A1(B1", "A1(B1,", "A1(B1,)", "A1(,B1)", "A1(,)", "A1(B1,,C1)", "A1(B1))", "A1(B1 ,C1)", "A1(B1, C1)", "A1(B1(C1)", "A1(B)", "A1(B0)", "A1(B1,C)", "A1[B1]",
		"A1(A1)", "A1(A2)", "A1(B1,B1)", "A1(B1(C1),C1)", "A1(B1(A1))", "A1(B1,C1,D1,E1,F1,G1,H1,A1)", "A1(B1,C1,D1,E1,F1,G1,H1,I1)",
		strings.Repeat("A1(", 1000000), strings.Repeat("A1(B1(C1(D1(E1(F1(G1(H1(", 100000), strings.Repeat("A", 1000000),
	} {
		if tree, ok := impl.ParseTree(text); len(tree) != 0 || ok {
			t.Errorf("ParseTree(%.40q) = %v, %v", text, tree, ok)
		}
	}
}

// TestShortTexts checks all texts of up to seven of these bytes: those of a tree are the ones that it is formatted to.
func TestShortTexts(t *testing.T) {
	texts := []string{""}
	found := 0
	for range 7 {
		var longer []string
		for _, text := range texts {
			for _, c := range "AB10(,)" {
				longer = append(longer, text+string(c))
			}
		}
		texts = longer
		for _, text := range texts {
			tree, ok := impl.ParseTree(text)
			if ok != impl.TreeValid(tree) || ok && impl.FormatTree(tree) != text || !ok && len(tree) != 0 {
				t.Fatalf("ParseTree(%q) = %v, %v", text, tree, ok)
			}
			if ok {
				found++
			}
		}
	}
	// A or B of size 1, 10 or 11 alone; or one below the other, where both texts together have up to 5 bytes.
	if found != 6+2*5 {
		t.Errorf("%d texts are trees", found)
	}
}

func TestTreesShareNothing(t *testing.T) {
	text := "A4(B3,C5(D1,E2))"
	one, two := mustParse(t, text), mustParse(t, text)
	one = append(one, impl.Segment{Name: "F", Size: 1, Parent: 0})
	for i := range one {
		one[i] = impl.Segment{}
	}
	if impl.FormatTree(two) != text || impl.FormatTree(mustParse(t, text)) != text {
		t.Errorf("a change of one tree changes another one: %v", two)
	}
	row := mustParse(t, "A4(B3,C5(D1,E2),F1)")
	kept := slices.Clone(row)
	tree := row[:5]
	impl.TreeValid(tree)
	impl.FormatTree(tree)
	impl.NamesOf(tree)
	impl.TotalSize(tree)
	impl.PathOf(tree, "E")
	impl.ChildrenOf(tree, "C")
	impl.SizeOf(tree, "E")
	impl.CommonOf(tree, "D", "E")
	if !slices.Equal(row, kept) {
		t.Errorf("a function changed its argument to %v", row)
	}
}
