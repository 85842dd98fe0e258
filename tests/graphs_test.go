package tests

import (
	"slices"
	"strings"
	"testing"

	"loop.example/segmentrooms/impl"
)

// A graphing is what is told of pairs within a tree. Several texts stand in one, with single spaces between them.
type graphing struct {
	together, clashes, show string
	rings                   bool
}

// closureOf returns of each two names whether the second one is reached from the first one:
// by a pair, or through a third one that is reached from the first one and from which the second one is.
func closureOf(pairs []string) map[string]bool {
	closure := map[string]bool{}
	for _, pair := range pairs {
		closure[pair] = true
	}
	names := strings.Split("ABCDEFGH", "")
	for _, between := range names {
		for _, from := range names {
			for _, to := range names {
				if closure[from+between] && closure[between+to] {
					closure[from+to] = true
				}
			}
		}
	}
	return closure
}

// waysIn returns all ways of exactly so many calls from a segment on, its own name first, in the order of their pairs.
func waysIn(pairs []string, from string, calls int) []string {
	ways := []string{from}
	for range calls {
		var longer []string
		for _, way := range ways {
			for _, pair := range pairs {
				if strings.HasSuffix(way, pair[:1]) {
					longer = append(longer, way+pair[1:])
				}
			}
		}
		ways = longer
	}
	return ways
}

// firstWay returns the first one of the shortest ways from a segment to another one, which must be reached from it, without its own name.
func firstWay(pairs []string, from, to string) string {
	for calls := 1; ; calls++ {
		ways := waysIn(pairs, from, calls)
		if i := slices.IndexFunc(ways, func(way string) bool { return strings.HasSuffix(way, to) }); i >= 0 {
			return ways[i][1:]
		}
	}
}

// graphingOf returns what is told of valid pairs within a tree.
func graphingOf(tree []impl.Segment, pairs []string) graphing {
	var want graphing
	closure := closureOf(pairs)
	root := tree[0].Name
	isLive := func(name string) bool { return name == root || closure[root+name] }
	var together, clashes []string
	for _, two := range textsOver("ABCDEFGH", 2)[1+impl.MaxSegments:] {
		a, b := two[:1], two[1:]
		forth, back := isLive(a) && closure[a+b], isLive(b) && closure[b+a]
		if a == b {
			want.rings = want.rings || forth
			continue
		}
		if a > b || !forth && !back {
			continue
		}
		together = append(together, two)
		if liesIn(tree, two) {
			continue
		}
		clashes = append(clashes, two)
		if !forth {
			a, b = b, a
		}
		if names := firstWay(pairs, root, a) + firstWay(pairs, a, b); len(clashes) == 1 && len(names) <= impl.MaxDepth {
			want.show = nested(names)
		}
	}
	want.together, want.clashes = strings.Join(together, " "), strings.Join(clashes, " ")
	return want
}

// reachedIn returns what is reached from a segment, in the order of the tree.
func reachedIn(tree []impl.Segment, pairs []string, name string) string {
	closure := closureOf(pairs)
	reached := ""
	for _, s := range tree {
		if closure[name+s.Name] {
			reached += s.Name
		}
	}
	return reached
}

// tellGraph checks all that is told of valid pairs within a tree.
func tellGraph(t *testing.T, tree []impl.Segment, pairs []string) {
	t.Helper()
	checkGraph(t, tree, pairs, graphingOf(tree, pairs))
	for _, s := range tree {
		checkReached(t, tree, pairs, s.Name, reachedIn(tree, pairs, s.Name))
	}
}

func checkGraph(t *testing.T, tree []impl.Segment, pairs []string, want graphing) {
	t.Helper()
	if !impl.GraphValid(tree, pairs) {
		t.Fatalf("GraphValid(%v, %q)", tree, pairs)
	}
	if together, ok := impl.TogetherIn(tree, pairs); strings.Join(together, " ") != want.together || slices.Contains(together, "") || !ok {
		t.Fatalf("TogetherIn(%v, %q) = %q, %v, not %q", tree, pairs, together, ok, want.together)
	}
	if clashes, ok := impl.ClashesOf(tree, pairs); strings.Join(clashes, " ") != want.clashes || slices.Contains(clashes, "") || !ok {
		t.Fatalf("ClashesOf(%v, %q) = %q, %v, not %q", tree, pairs, clashes, ok, want.clashes)
	}
	if safe := impl.GraphSafe(tree, pairs); safe != (want.clashes == "") {
		t.Fatalf("GraphSafe(%v, %q) = %v", tree, pairs, safe)
	}
	show, ok := impl.ShowClash(tree, pairs)
	if show != want.show || ok != (want.show != "") {
		t.Fatalf("ShowClash(%v, %q) = %q, %v, not %q", tree, pairs, show, ok, want.show)
	}
	if ok && (impl.IsSafe(tree, show) || !impl.KeepsTo(tree, show, pairs)) {
		t.Fatalf("ShowClash(%v, %q) = %q, which is safe or does not keep to the pairs", tree, pairs, show)
	}
	if rings := impl.HasRings(tree, pairs); rings != want.rings {
		t.Fatalf("HasRings(%v, %q) = %v", tree, pairs, rings)
	}
}

// checkDrawn checks that what is told of pairs is as written out, also by the second reckoning of it.
func checkDrawn(t *testing.T, tree []impl.Segment, pairs string, want graphing) {
	t.Helper()
	checkGraph(t, tree, strings.Fields(pairs), want)
	tellGraph(t, tree, strings.Fields(pairs))
}

func checkReached(t *testing.T, tree []impl.Segment, pairs []string, name, want string) {
	t.Helper()
	if reached, ok := impl.ReachedFrom(tree, pairs, name); reached != want || !ok {
		t.Fatalf("ReachedFrom(%v, %q, %s) = %q, %v, not %q", tree, pairs, name, reached, ok, want)
	}
}

func checkNotReached(t *testing.T, tree []impl.Segment, pairs []string, name string) {
	t.Helper()
	if reached, ok := impl.ReachedFrom(tree, pairs, name); reached != "" || ok {
		t.Errorf("ReachedFrom(%v, %.100q, %.100q) = %q, %v", tree, pairs, name, reached, ok)
	}
}

func checkKeeps(t *testing.T, tree []impl.Segment, trace string, pairs []string, want bool) {
	t.Helper()
	if keeps := impl.KeepsTo(tree, trace, pairs); keeps != want {
		t.Fatalf("KeepsTo(%v, %.100q, %.100q) = %v", tree, trace, pairs, keeps)
	}
}

// tellKept checks whether a valid trace keeps to valid pairs, and that it is safe if it does and they are.
func tellKept(t *testing.T, tree []impl.Segment, trace string, made, pairs []string, safe bool) {
	t.Helper()
	keeps := !slices.ContainsFunc(made, func(pair string) bool { return !slices.Contains(pairs, pair) })
	checkKeeps(t, tree, trace, pairs, keeps)
	if keeps && safe && !impl.IsSafe(tree, trace) {
		t.Fatalf("%q keeps to %q, which are safe within %v, but is not", trace, pairs, tree)
	}
}

// checkNoGraph checks what is returned where a tree or pairs are not valid.
func checkNoGraph(t *testing.T, tree []impl.Segment, pairs []string) {
	t.Helper()
	if impl.GraphValid(tree, pairs) || impl.GraphSafe(tree, pairs) || impl.HasRings(tree, pairs) {
		t.Errorf("GraphValid, GraphSafe, HasRings(%v, %.100q) = %v, %v, %v", tree, pairs, impl.GraphValid(tree, pairs), impl.GraphSafe(tree, pairs), impl.HasRings(tree, pairs))
	}
	if together, ok := impl.TogetherIn(tree, pairs); len(together) != 0 || ok {
		t.Errorf("TogetherIn(%v, %.100q) = %q, %v", tree, pairs, together, ok)
	}
	if clashes, ok := impl.ClashesOf(tree, pairs); len(clashes) != 0 || ok {
		t.Errorf("ClashesOf(%v, %.100q) = %q, %v", tree, pairs, clashes, ok)
	}
	if show, ok := impl.ShowClash(tree, pairs); show != "" || ok {
		t.Errorf("ShowClash(%v, %.100q) = %q, %v", tree, pairs, show, ok)
	}
	for _, name := range []string{"A", "B", "C", "E", "I", ""} {
		checkNotReached(t, tree, pairs, name)
	}
	for _, trace := range []string{"", "A", "B", "B(C)", "I", "("} {
		checkKeeps(t, tree, trace, pairs, false)
	}
}

// A chooser chooses numbers that look like chance but are the same ones each time.
type chooser uint64

func (c *chooser) below(n int) int {
	*c = *c*6364136223846793005 + 1442695040888963407
	return int(*c>>33) % n
}

// pairsOver returns so many pairs, or fewer, of the names of a tree.
func (c *chooser) pairsOver(tree []impl.Segment, n int) []string {
	var pairs []string
	for range n {
		pairs = append(pairs, tree[c.below(len(tree))].Name+tree[c.below(len(tree))].Name)
	}
	slices.Sort(pairs)
	return slices.Compact(pairs)
}

// allPairs returns all pairs of the names of a tree.
func allPairs(tree []impl.Segment) []string {
	var pairs []string
	for _, caller := range tree {
		for _, called := range tree {
			pairs = append(pairs, caller.Name+called.Name)
		}
	}
	slices.Sort(pairs)
	return pairs
}

// chosen returns those of some texts whose bits are set in a number.
func chosen(texts []string, bits int) []string {
	var some []string
	for i, text := range texts {
		if bits&(1<<i) != 0 {
			some = append(some, text)
		}
	}
	return some
}

func TestGraphsOfTheDocument(t *testing.T) {
	checkDrawn(t, mustParse(t, "A1(B1,C1)"), "AB BC", graphing{"AB AC BC", "BC", "B(C)", false})
	checkDrawn(t, mustParse(t, "A4(B3,C5(D1,E2))"), "AB AC BD", graphing{"AB AC AD BD", "BD", "B(D)", false})
	checkDrawn(t, mustParse(t, "A4(B3(D1),C5,E2)"), "AB AC BD", graphing{"AB AC AD BD", "", "", false})
	checkDrawn(t, mustParse(t, "A1(B1,C1,D1)"), "AB AC CD", graphing{"AB AC AD CD", "CD", "C(D)", false})
	checkDrawn(t, mustParse(t, "A1(B1,C1(D1))"), "AB AC CD", graphing{"AB AC AD CD", "", "", false})
}

func TestGraphsOfNoPairs(t *testing.T) {
	for _, text := range []string{"A1", "H99", "D4(H3(A1,B1(C9)),E5(F1,G2))", "H99(G99(F99(E99(D99(C99(B99(A99)))))))"} {
		tree := mustParse(t, text)
		checkDrawn(t, tree, "", graphing{})
		checkKeeps(t, tree, "", nil, true)
		checkKeeps(t, tree, "", []string{}, true)
		for _, s := range tree {
			checkReached(t, tree, nil, s.Name, "")
			checkKeeps(t, tree, s.Name, nil, false)
		}
	}
}

// TestSegmentsThatAreNeverCalled checks that what segments call that the root never reaches is left out, but told from them.
func TestSegmentsThatAreNeverCalled(t *testing.T) {
	tree := mustParse(t, "A4(B3,C5(D1,E2))")
	for pairs, want := range map[string]graphing{
		"BC":                {},
		"CB":                {},
		"BC CB":             {},
		"BB":                {},
		"BA":                {},
		"BA BC CA DE ED":    {},
		"DE ED":             {},
		"AB CB DB EB":       {"AB", "", "", false},
		"AB CA CD DC":       {"AB", "", "", false},
		"AB DE EB":          {"AB", "", "", false},
		"AB CC":             {"AB", "", "", false},
		"AB BB CC":          {"AB", "", "", true},
		"AB BC DE ED":       {"AB AC BC", "BC", "B(C)", false},
		"AC BC CD":          {"AC AD CD", "", "", false},
		"AC BC CD DE":       {"AC AD AE CD CE DE", "DE", "C(D(E))", false},
		"AA BC CB":          {"", "", "", true},
		"AE BD DB EC":       {"AC AE CE", "", "", false},
		"AD BA BD CD EA ED": {"AD", "", "", false},
	} {
		checkDrawn(t, tree, pairs, want)
	}
	pairs := strings.Fields("BA BC CB DE")
	for name, want := range map[string]string{"A": "", "B": "ABC", "C": "ABC", "D": "E", "E": ""} {
		checkReached(t, tree, pairs, name, want)
	}
}

// TestSegmentsThatAreReached checks that these are told in the order of the tree, and a segment itself only if it is called again.
func TestSegmentsThatAreReached(t *testing.T) {
	tree := mustParse(t, "D4(H3(A1,B1(C9)),E5(F1,G2))")
	for pairs, reached := range map[string]map[string]string{
		"AB BC CA DE EF FG GE GF HD":       {"A": "ABC", "B": "ABC", "C": "ABC", "D": "EFG", "E": "EFG", "F": "EFG", "G": "EFG", "H": "DEFG"},
		"AB AH BC CA CG DE EF FG GE GF HD": {"A": "DHABCEFG", "B": "DHABCEFG", "C": "DHABCEFG", "D": "EFG", "E": "EFG", "F": "EFG", "G": "EFG", "H": "DEFG"},
		"AB BC CD DE EF FG GH":             {"A": "DHBCEFG", "B": "DHCEFG", "C": "DHEFG", "D": "HEFG", "E": "HFG", "F": "HG", "G": "H", "H": ""},
		"AB AC AD AE AF AG AH":             {"A": "DHBCEFG", "B": "", "D": "", "H": ""},
		"AA BA":                            {"A": "A", "B": "A", "C": "", "D": ""},
	} {
		for name, want := range reached {
			checkReached(t, tree, strings.Fields(pairs), name, want)
		}
	}
	for _, name := range []string{"", "I", "@", "a", "DH", "DHA", "AB", "D4", " ", " D", "D ", "\x00", "\xff", "é", strings.Repeat("D", 1000000)} {
		checkNotReached(t, tree, nil, name)
		checkNotReached(t, tree, strings.Fields("AB BC DH"), name)
	}
	checkNotReached(t, mustParse(t, "A4(B3,C5(D1,E2))"), []string{"AB"}, "F")
}

func TestRings(t *testing.T) {
	tree := mustParse(t, "A4(B3,C5(D1,E2))")
	for pairs, want := range map[string]graphing{
		"AA":             {"", "", "", true},
		"AB BA":          {"AB", "", "", true},
		"AB BB":          {"AB", "", "", true},
		"AD DA":          {"AD", "", "", true},
		"AC CD DC":       {"AC AD CD", "", "", true},
		"AC CE EA":       {"AC AE CE", "", "", true},
		"AB AC CC":       {"AB AC", "", "", true},
		"AB AC":          {"AB AC", "", "", false},
		"AC AD CD":       {"AC AD CD", "", "", false},
		"AB AC AD AE":    {"AB AC AD AE", "", "", false},
		"AC AD CE DE":    {"AC AD AE CE DE", "DE", "D(E)", false},
		"AB AC BA":       {"AB AC BC", "BC", "B(A(C))", true},
		"AB AC CA":       {"AB AC BC", "BC", "C(A(B))", true},
		"AB AC BA CA":    {"AB AC BC", "BC", "B(A(C))", true},
		"AC CD DE EC":    {"AC AD AE CD CE DE", "DE", "C(D(E))", true},
		"AE BA CD DB EC": {"AB AC AD AE BC BD BE CD CE DE", "BC BD BE DE", "E(C(D(B(A(E(C))))))", true},
	} {
		checkDrawn(t, tree, pairs, want)
	}
	for name := range strings.SplitSeq("ABCDEFGH", "") {
		alone := []impl.Segment{{Name: name, Size: 1, Parent: -1}}
		checkDrawn(t, alone, name+name, graphing{rings: true})
		checkReached(t, alone, []string{name + name}, name, name)
	}
}

// TestClashesByAWayUpAndDown checks segments of which none calls the other one, but which are active at once.
func TestClashesByAWayUpAndDown(t *testing.T) {
	tree := mustParse(t, "A4(B3,C5(D1,E2))")
	for pairs, want := range map[string]graphing{
		"AD DC":          {"AC AD CD", "", "", false},
		"AD AE DC EC":    {"AC AD AE CD CE", "", "", false},
		"AD CA DC":       {"AC AD CD", "", "", true},
		"AD CE DC":       {"AC AD AE CD CE DE", "DE", "D(C(E))", false},
		"AE CD EC":       {"AC AD AE CD CE DE", "DE", "E(C(D))", false},
		"AD AE CD EC":    {"AC AD AE CD CE DE", "DE", "E(C(D))", false},
		"AD CE DC EA":    {"AC AD AE CD CE DE", "DE", "D(C(E))", true},
		"AB AD DA":       {"AB AD BD", "BD", "D(A(B))", true},
		"AC CB":          {"AB AC BC", "BC", "C(B)", false},
		"AD CB DC":       {"AB AC AD BC BD CD", "BC BD", "D(C(B))", false},
		"AB AD BA DC":    {"AB AC AD BC BD CD", "BC BD", "B(A(D(C)))", true},
		"AB AE BA CD EC": {"AB AC AD AE BC BD BE CD CE DE", "BC BD BE DE", "B(A(E(C)))", true},
	} {
		checkDrawn(t, tree, pairs, want)
	}
}

// TestNamesOfAClashThatReachEachOther checks that the first name is called first if it can be, also where this is the longer way.
func TestNamesOfAClashThatReachEachOther(t *testing.T) {
	tree := mustParse(t, "A4(C5(E2,D1),B3)")
	for pairs, want := range map[string]graphing{
		"AD AE DE ED": {"AD AE DE", "DE", "D(E)", true},
		"AD DE ED":    {"AD AE DE", "DE", "D(E)", true},
		"AE DE ED":    {"AD AE DE", "DE", "E(D(E))", true},
		"AE ED":       {"AD AE DE", "DE", "E(D)", false},
		"AC BC CB":    {"AB AC BC", "BC", "C(B(C))", true},
		"AC CB":       {"AB AC BC", "BC", "C(B)", false},
		"AB AC CB":    {"AB AC BC", "BC", "C(B)", false},
		"AB BC":       {"AB AC BC", "BC", "B(C)", false},
	} {
		checkDrawn(t, tree, pairs, want)
	}
}

// checkShown checks the trace that shows the only clash, DE, within trees of the same segments in different orders.
func checkShown(t *testing.T, pairs, want string) {
	t.Helper()
	for _, text := range []string{"A1(C1(B1(F1(G1(H1(D1,E1))))))", "A1(H1(G1(F1(C1(B1(E1,D1))))))", "A1(B1(C1(F1(G1(H1(E1,D1))))))"} {
		tree := mustParse(t, text)
		list := strings.Fields(pairs)
		tellGraph(t, tree, list)
		clashes, _ := impl.ClashesOf(tree, list)
		if show, ok := impl.ShowClash(tree, list); show != want || !ok || !slices.Equal(clashes, []string{"DE"}) {
			t.Errorf("ShowClash(%s, %q) = %q, %v, not %q, for %q", text, pairs, show, ok, want, clashes)
		}
	}
}

// TestFirstOfTheShortestWays checks ways by the first pairs that differ, to the first name of a clash and from there on.
func TestFirstOfTheShortestWays(t *testing.T) {
	for pairs, want := range map[string]string{
		"AD DE":                            "D(E)",
		"AE ED":                            "E(D)",
		"AA AD DD DE":                      "D(E)",
		"AB AE BD DA":                      "B(D(A(E)))",
		"AB AC BD CD DE":                   "B(D(E))",
		"AB AC BC CD DE":                   "C(D(E))",
		"AB AC BF CD DE FD":                "C(D(E))",
		"AB BF BG DE FD GD":                "B(F(D(E)))",
		"AB AC BG CF DE FD GD":             "B(G(D(E)))",
		"AF AG BD CD DE FC GB":             "F(C(D(E)))",
		"AD BE CE DB DC":                   "D(B(E))",
		"AD BC CE DB DC":                   "D(C(E))",
		"AD BG CF DB DC FE GE":             "D(B(G(E)))",
		"AD BE CE DF DG FC GB":             "D(F(C(E)))",
		"AB AC BE CE EF EG FD GD":          "B(E(F(D)))",
		"AF AG BD BE CD CE DF DG FC GB":    "F(C(D(F(C(E)))))",
		"AG AH BE BF CE CF EB EC FD GC HB": "G(C(E(B(F(D)))))",
	} {
		checkShown(t, pairs, want)
	}
}

// TestWaysOfEightCalls checks that a clash is shown by at most eight calls within each other, and only the first one.
func TestWaysOfEightCalls(t *testing.T) {
	for _, c := range []struct{ tree, pairs, clashes, show string }{
		{"A1(C1(D1(E1(F1(G1(B1,H1))))))", "AH CB DC ED FE GF HG", "BH", nested("HGFEDCB")},
		{"A1(C1(D1(E1(F1(G1(B1,H1))))))", "AH BH CB DC ED FE GF HG", "BH", nested("HGFEDCBH")},
		{"A1(C1(D1(E1(F1(H1(B1,G1))))))", "AH BG CB DC ED FE GF HG", "BG", nested("HGFEDCBG")},
		{"A1(C1(D1(E1(F1(H1(B1,G1))))))", "AH BH CB DC ED FE GF HG", "BG", ""},
		{"A1(C1(D1(E1(F1(G1(B1,H1))))))", "AC BC CD DE EF FG GH HB", "BH", ""},
		{"A1(C1(D1(E1(F1(B1,G1,H1)))))", "AH BH CB DC ED FE GF HG", "BG BH GH", ""},
		{"A1(C1(D1(E1(F1(B1,G1,H1)))))", "AG BG CB DC ED FE GH HF", "BG BH GH", nested("GHFEDCBG")},
		{"A1(B1,C1,D1,E1,F1,G1,H1)", "AH BA CB DC ED FE GF HG", "BC BD BE BF BG BH CD CE CF CG CH DE DF DG DH EF EG EH FG FH GH", ""},
	} {
		tree := mustParse(t, c.tree)
		pairs := strings.Fields(c.pairs)
		tellGraph(t, tree, pairs)
		clashes, _ := impl.ClashesOf(tree, pairs)
		if show, ok := impl.ShowClash(tree, pairs); show != c.show || ok != (c.show != "") || strings.Join(clashes, " ") != c.clashes {
			t.Errorf("ShowClash(%s, %q) = %q, %v, not %q, for %q", c.tree, c.pairs, show, ok, c.show, clashes)
		}
	}
}

func TestTracesThatKeepToPairs(t *testing.T) {
	tree := mustParse(t, "A4(B3,C5(D1,E2))")
	for _, c := range []struct {
		trace, pairs string
		want         bool
	}{
		{"", "", true}, {"", "AB", true}, {"", "DE ED", true}, {"B", "AB", true}, {"B", "", false}, {"B", "BA", false}, {"B", "AC", false}, {"B", "AA BB", false},
		{"B(D)C", "AB AC BD", true}, {"B(D)C", "AB BD", false}, {"B(D)C", "AB AC", false}, {"B(D)C", "AC BD", false}, {"B(D)C", "AB AC DB", false}, {"B(D)C", "AB AC AD", false}, {"B(D)C", "AA AB AC AD AE BB BD CC", true},
		{"A", "AA", true}, {"A", "AB", false}, {"A(A)", "AA", true}, {"A(A)", "AB BA", false}, {"A(B)", "AA AB", true}, {"A(B)", "AA", false}, {"A(B)", "AB", false},
		{"B(B)", "AB", false}, {"B(B)", "AB BB", true}, {"B(B)", "AB BA", false}, {"B(A)", "AB BA", true}, {"B(A(B))", "AB BA", true}, {"B(A(C))", "AB BA", false}, {"B(A(C))", "AB AC BA", true},
		{"BCB", "AB AC", true}, {"BCD", "AB AC", false}, {"DBC", "AB AC", false}, {"BDC", "AB AC", false}, {"B(D(E)D)E", "AB AE BD DE", true}, {"B(D(E)DE)E", "AB AE BD DE", false}, {"B(D)D", "AB BD", false},
	} {
		checkKeeps(t, tree, c.trace, strings.Fields(c.pairs), c.want)
	}
}

func TestKeepingOfLongestTraces(t *testing.T) {
	tree := mustParse(t, "A4(B3,C5(D1,E2))")
	pairs := strings.Fields("AB AC BB BC CB CC CD")
	for trace, want := range map[string]bool{
		strings.Repeat("B", 80):                 true,
		strings.Repeat("BC", 40):                true,
		strings.Repeat("B(C)", 20):              true,
		strings.Repeat("B", 79) + "D":           false,
		"D" + strings.Repeat("B", 79):           false,
		strings.Repeat("B", 76) + "B(C)":        true,
		strings.Repeat("B", 76) + "B(D)":        false,
		"C(" + strings.Repeat("D", 77) + ")":    true,
		"C(" + strings.Repeat("D", 76) + "A)":   false,
		strings.Repeat("B", 81):                 false,
		strings.Repeat("B(C)", 20) + "B":        false,
		"C(" + strings.Repeat("D", 78) + ")":    false,
		strings.Repeat("B", 1000000):            false,
		strings.Repeat("B(", 1000000):           false,
		nested("BBBBBBBB"):                      true,
		nested("BCBCBCCD"):                      true,
		nested("BCBCBCCA"):                      false,
		nested("DBCBCBCB"):                      false,
		nested("BBBBBBBB") + nested("CCCCCCCC"): true,
		nested("BBBBBBBBB"):                     false,
		nested("BCBCBCBCB"):                     false,
		"C" + nested("BBBBBBBBB"):               false,
		nested(strings.Repeat("B", 27)):         false,
	} {
		checkKeeps(t, tree, trace, pairs, want)
	}
}

func TestKeepingOfTextsOfNoTrace(t *testing.T) {
	tree := mustParse(t, "A4(B3,C5(D1,E2))")
	for _, trace := range textsOfNoTrace() {
		checkKeeps(t, tree, trace, nil, false)
		checkKeeps(t, tree, trace, allPairs(tree)[:impl.MaxPairs], false)
	}
}

// tellWays checks pairs against all ways from the root that are long enough to reach a segment and from there another one, or itself:
// what stands in one of them is active at once, a segment that stands in it twice is in a ring, and each of them is a trace that keeps to the pairs.
func tellWays(t *testing.T, tree []impl.Segment, pairs []string) {
	t.Helper()
	active, twice, safe := map[string]bool{}, false, true
	for calls := 1; calls < 2*len(tree); calls++ {
		for _, way := range waysIn(pairs, tree[0].Name, calls) {
			for i := range way {
				for j := range way[:i] {
					active[min(way[j:j+1], way[i:i+1])+max(way[j:j+1], way[i:i+1])] = true
					twice = twice || way[i] == way[j]
				}
			}
			lies := liesIn(tree, way)
			safe = safe && lies
			checkKeeps(t, tree, nested(way[1:]), pairs, true)
			if impl.IsSafe(tree, nested(way[1:])) != lies {
				t.Fatalf("IsSafe(%v, %q) = %v", tree, nested(way[1:]), !lies)
			}
		}
	}
	together, _ := impl.TogetherIn(tree, pairs)
	for _, two := range allPairs(tree) {
		if two[0] < two[1] && active[two] != slices.Contains(together, two) {
			t.Fatalf("TogetherIn(%v, %q) = %q, but a way tells %v of %s", tree, pairs, together, active[two], two)
		}
	}
	show, shown := impl.ShowClash(tree, pairs)
	if impl.HasRings(tree, pairs) != twice || impl.GraphSafe(tree, pairs) != safe || shown == safe {
		t.Fatalf("HasRings, GraphSafe, ShowClash(%v, %q) = %v, %v, %q", tree, pairs, !twice, impl.GraphSafe(tree, pairs), show)
	}
}

// TestAllSmallGraphs checks all pairs of up to three segments, and traces that keep to them or do not.
func TestAllSmallGraphs(t *testing.T) {
	for n := 1; n <= 3; n++ {
		for _, parents := range preorders(n) {
			for _, tree := range treesOfShape(parents) {
				names, _ := impl.NamesOf(tree)
				traces := tracesOver(names, 4)
				var made [][]string
				for _, trace := range traces {
					made = append(made, tellingOf(tree, trace).pairs)
				}
				for bits := range 1 << (n * n) {
					pairs := chosen(allPairs(tree), bits)
					tellGraph(t, tree, pairs)
					tellWays(t, tree, pairs)
					safe := impl.GraphSafe(tree, pairs)
					for i, trace := range traces {
						tellKept(t, tree, trace, made[i], pairs, safe)
					}
				}
			}
		}
	}
}

// TestGraphsWithinLargerTrees checks pairs of many numbers within trees of all shapes.
func TestGraphsWithinLargerTrees(t *testing.T) {
	var c chooser
	for n := 4; n <= impl.MaxSegments; n++ {
		for _, parents := range preorders(n) {
			for _, tree := range treesOfShape(parents) {
				tellGraph(t, tree, c.pairsOver(tree, c.below(impl.MaxPairs+1)))
				tellGraph(t, tree, c.pairsOver(tree, n))
				if n > 4 {
					continue
				}
				for range 50 {
					tellWays(t, tree, c.pairsOver(tree, c.below(10)))
				}
			}
		}
	}
}

// TestTracesKeepToTheirOwnPairs checks traces within trees of all shapes with the pairs that they are made of, and without one of these.
func TestTracesKeepToTheirOwnPairs(t *testing.T) {
	for _, parents := range preorders(impl.MaxSegments) {
		for _, tree := range treesOfShape(parents) {
			for _, trace := range []string{"A(BC(DE)F(G(H)))BH(G(F)E)DC", nested("HGFEDCBA") + nested("AACCAACC") + "EDG", "B(D)C", "G(H(C))AF(E)"} {
				made := tellingOf(tree, trace).pairs
				tellKept(t, tree, trace, made, made, impl.GraphSafe(tree, made))
				for i := range made {
					tellKept(t, tree, trace, made, slices.Delete(slices.Clone(made), i, i+1), false)
				}
			}
		}
	}
}

func TestMostPairs(t *testing.T) {
	tree := mustParse(t, "A4(B3,C5(D1,E2))")
	all := allPairs(tree)
	for _, pairs := range [][]string{all[:19], all[:20], all[5:], all[2:22], slices.Concat(all[:10], all[15:])} {
		tellGraph(t, tree, pairs)
	}
	for _, pairs := range [][]string{all[:21], all[4:], all, slices.Repeat(all[:1], 21), slices.Repeat(all[:1], 1000000), make([]string, 21), make([]string, 1000000), slices.Concat(all[:20], []string{""})} {
		checkNoGraph(t, tree, pairs)
	}
	largest := mustParse(t, "H9(G9(F9(E9(D9(C9(B9,A9))))))")
	for begin := range 44 {
		tellGraph(t, largest, allPairs(largest)[begin:begin+20])
		checkNoGraph(t, largest, allPairs(largest)[begin:begin+21])
	}
	checkNoGraph(t, largest, allPairs(largest))
}

func TestSinglePairs(t *testing.T) {
	for _, text := range []string{"A4(B3,C5(D1,E2))", "H9(G9(F9(E9(D9(C9(B9,A9))))))", "D4(H3(A1,B1(C9)),E5(F1,G2))"} {
		tree := mustParse(t, text)
		for _, pair := range allPairs(tree) {
			tellGraph(t, tree, []string{pair})
		}
	}
}

// textsOfNoPair returns texts that are no pair within a tree of the segments from A to E.
func textsOfNoPair() []string {
	return []string{
		"", "A", "E", "F", "AF", "FA", "FF", "EF", "HA", "AH", "AI", "IA", "A@", "@A", "Aa", "aA", "ab", "ABC", "ABAB", "AAA", "A B", "AB ", " AB", " A", "A ", "  ", "A-B", "A-", "-A", "AB\n", "\n\n",
		"\x00\x00", "A\x00", "\x00A", "AB\x00", "\xff\xff", "A\xff", "\xffA", "é", "Aé", "éA", "ＡＢ", "(A", "A(", "A)", "A(B)", "A4", "4A", "A,", ",A", "AB,AC", "AB AC", strings.Repeat("AB", 500000), strings.Repeat("A", 1000000),
	}
}

// TestTextsOfNoPair checks each text alone, and where it stands in order among pairs.
func TestTextsOfNoPair(t *testing.T) {
	tree := mustParse(t, "A4(B3,C5(D1,E2))")
	for _, bad := range textsOfNoPair() {
		checkNoGraph(t, tree, []string{bad})
		among := []string{"AB", "AC", "BD", bad}
		slices.Sort(among)
		checkNoGraph(t, tree, among)
	}
	for i := range impl.MaxSegments {
		name := "ABCDEFGH"[i : i+1]
		alone := []impl.Segment{{Name: name, Size: 1, Parent: -1}}
		for _, pair := range allPairs(treeWithParents(-1, 0, 0, 0, 0, 0, 0, 0)) {
			if pair != name+name {
				checkNoGraph(t, alone, []string{pair})
			}
		}
	}
}

// pairsOutOfOrder returns pairs within a tree of the segments from A to E that stand twice or out of order.
func pairsOutOfOrder(tree []impl.Segment) [][]string {
	var lists [][]string
	for _, pairs := range []string{"AB AB", "AA AA", "AC AB", "BA AB", "EE AA", "AB AC AB", "AB AC AC", "AB AB AC", "AB BC BA", "AC AB BC", "AB BA AC", "BC AB AC", "AB AC BA AD"} {
		lists = append(lists, strings.Fields(pairs))
	}
	valid := allPairs(tree)[:impl.MaxPairs]
	for i := range valid[1:] {
		swapped, twice := slices.Clone(valid), slices.Clone(valid)
		swapped[i], swapped[i+1] = swapped[i+1], swapped[i]
		twice[i] = twice[i+1]
		lists = append(lists, swapped, twice)
	}
	return lists
}

func TestPairsTwiceAndOutOfOrder(t *testing.T) {
	tree := mustParse(t, "A4(B3,C5(D1,E2))")
	for _, pairs := range pairsOutOfOrder(tree) {
		checkNoGraph(t, tree, pairs)
	}
	// In the order of the tree, which is not that of the alphabet.
	checkNoGraph(t, mustParse(t, "D4(H3(A1,B1(C9)),E5(F1,G2))"), []string{"DH", "DE"})
	checkNoGraph(t, mustParse(t, "D4(H3(A1,B1(C9)),E5(F1,G2))"), []string{"DH", "HA", "BC"})
}

func TestGraphsWithinInvalidTrees(t *testing.T) {
	for _, tree := range invalidTrees() {
		for _, pairs := range [][]string{nil, {}, {"BA"}, {"BB"}, {"AC", "BA"}, {"II"}, {""}} {
			checkNoGraph(t, tree, pairs)
		}
	}
}

func TestGraphsChangeNothing(t *testing.T) {
	row := mustParse(t, "A4(B3,C5(D1,E2),F1)")
	list := strings.Fields("AB AC BD DB EC")
	keptRow, keptList := slices.Clone(row), slices.Clone(list)
	tellGraph(t, row[:5], list[:4])
	tellKept(t, row[:5], "B(D)C", []string{"AB", "AC", "BD"}, list[:4], false)
	if !slices.Equal(row, keptRow) || !slices.Equal(list, keptList) {
		t.Errorf("a function changed its argument to %v or %q", row, list)
	}
}

func TestGraphsShareNothing(t *testing.T) {
	tree := mustParse(t, "A4(B3,C5(D1,E2))")
	pairs := strings.Fields("AB AC BD CB DE")
	want := graphingOf(tree, pairs)
	keptTogether, _ := impl.TogetherIn(tree, pairs)
	keptClashes, _ := impl.ClashesOf(tree, pairs)
	together, _ := impl.TogetherIn(tree, pairs)
	clashes, _ := impl.ClashesOf(tree, pairs)
	clear(together[:cap(together)])
	clear(clashes[:cap(clashes)])
	if strings.Join(keptTogether, " ") != want.together || strings.Join(keptClashes, " ") != want.clashes {
		t.Errorf("a change of one result changes another one: %q, %q", keptTogether, keptClashes)
	}
	if !slices.Equal(pairs, strings.Fields("AB AC BD CB DE")) {
		t.Errorf("a change of a result changes the pairs to %q", pairs)
	}
	tellGraph(t, tree, pairs)
}
