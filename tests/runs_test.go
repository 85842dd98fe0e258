package tests

import (
	"slices"
	"strings"
	"sync"
	"testing"

	"loop.example/segmentrooms/impl"
)

// A running is what is told of the run of a trace.
type running struct {
	steps             []impl.Step
	loads, returns    string
	counts            []int
	busiest           string
	cost, ideal, peak int
}

// An outline is the part of a running that the tests write out.
type outline struct {
	text, returns     string
	counts            []int
	cost, ideal, peak int
}

// returnsIn tells of each need of a valid trace whether it is a return, read byte by byte:
// a call returns at once if no parenthesis follows, and where its own one ends otherwise.
func returnsIn(trace string) []bool {
	returns := []bool{false}
	for i := range len(trace) {
		if trace[i] == '(' {
			continue
		}
		if trace[i] != ')' {
			returns = append(returns, false)
		}
		if trace[i] == ')' || !strings.HasPrefix(trace[i+1:], "(") {
			returns = append(returns, true)
		}
	}
	return returns
}

// runningOf returns what is told of the run of a valid trace.
func runningOf(tree []impl.Segment, trace string) running {
	want := running{counts: make([]int, len(tree))}
	returns := returnsIn(trace)
	loaded := ""
	for i, name := range strings.Split(tellingOf(tree, trace).needs, "") {
		met := meetingOf(tree, loaded, slices.IndexFunc(tree, func(s impl.Segment) bool { return s.Name == name }))
		loaded = met.state
		want.steps = append(want.steps, impl.Step{Name: name, Load: met.load, State: met.state})
		want.loads += met.load
		if returns[i] {
			want.returns += met.load
		}
		want.peak = max(want.peak, costIn(tree, met.state))
	}
	for i, s := range tree {
		want.counts[i] = strings.Count(want.loads, s.Name)
		want.ideal += s.Size * min(want.counts[i], 1)
	}
	want.cost = costIn(tree, want.loads)
	want.busiest = tree[slices.Index(want.counts, slices.Max(want.counts))].Name
	return want
}

// textOf returns the text of steps.
func textOf(steps []impl.Step) string {
	var words []string
	for _, s := range steps {
		words = append(words, strings.TrimSuffix(s.Name+"+"+s.Load, "+"))
	}
	return strings.Join(words, " ")
}

// tellRun checks all that is told of the run of a valid trace.
func tellRun(t *testing.T, tree []impl.Segment, trace string) {
	t.Helper()
	want := runningOf(tree, trace)
	steps, ok := impl.StepsOf(tree, trace)
	if !slices.Equal(steps, want.steps) || !ok {
		t.Fatalf("StepsOf(%v, %q) = %q, %v, not %q", tree, trace, steps, ok, want.steps)
	}
	if text := impl.FormatSteps(steps); text != textOf(want.steps) {
		t.Fatalf("FormatSteps(%q) = %q", steps, text)
	}
	if loads, ok := impl.LoadsIn(tree, trace); loads != want.loads || !ok {
		t.Fatalf("LoadsIn(%v, %q) = %q, %v, not %q", tree, trace, loads, ok, want.loads)
	}
	if returns, ok := impl.ReturnLoads(tree, trace); returns != want.returns || !ok {
		t.Fatalf("ReturnLoads(%v, %q) = %q, %v, not %q", tree, trace, returns, ok, want.returns)
	}
	if counts, ok := impl.LoadCounts(tree, trace); !slices.Equal(counts, want.counts) || !ok {
		t.Fatalf("LoadCounts(%v, %q) = %v, %v, not %v", tree, trace, counts, ok, want.counts)
	}
	if busiest, ok := impl.BusiestOf(tree, trace); busiest != want.busiest || !ok {
		t.Fatalf("BusiestOf(%v, %q) = %q, %v, not %q", tree, trace, busiest, ok, want.busiest)
	}
	if cost, ideal, peak := impl.RunCost(tree, trace), impl.IdealCost(tree, trace), impl.PeakIn(tree, trace); cost != want.cost || ideal != want.ideal || peak != want.peak {
		t.Fatalf("RunCost, IdealCost, PeakIn(%v, %q) = %d, %d, %d, not %d, %d, %d", tree, trace, cost, ideal, peak, want.cost, want.ideal, want.peak)
	}
}

// tellOutline checks the run of a valid trace, and that what is told of it is as written out.
func tellOutline(t *testing.T, tree []impl.Segment, trace string, want outline) {
	t.Helper()
	tellRun(t, tree, trace)
	steps, _ := impl.StepsOf(tree, trace)
	returns, _ := impl.ReturnLoads(tree, trace)
	counts, _ := impl.LoadCounts(tree, trace)
	if text := impl.FormatSteps(steps); text != want.text || returns != want.returns || !slices.Equal(counts, want.counts) {
		t.Errorf("%q runs as %q, loads %q for returns, %v in all", trace, text, returns, counts)
	}
	if cost, ideal, peak := impl.RunCost(tree, trace), impl.IdealCost(tree, trace), impl.PeakIn(tree, trace); cost != want.cost || ideal != want.ideal || peak != want.peak {
		t.Errorf("%q costs %d, ideally %d, and takes %d", trace, cost, ideal, peak)
	}
}

// checkNoRun checks what is returned where a tree is not valid or a text is no trace within it.
func checkNoRun(t *testing.T, tree []impl.Segment, trace string) {
	t.Helper()
	if steps, ok := impl.StepsOf(tree, trace); len(steps) != 0 || ok {
		t.Errorf("StepsOf(%v, %.100q) = %q, %v", tree, trace, steps, ok)
	}
	if loads, ok := impl.LoadsIn(tree, trace); loads != "" || ok {
		t.Errorf("LoadsIn(%v, %.100q) = %q, %v", tree, trace, loads, ok)
	}
	if returns, ok := impl.ReturnLoads(tree, trace); returns != "" || ok {
		t.Errorf("ReturnLoads(%v, %.100q) = %q, %v", tree, trace, returns, ok)
	}
	if counts, ok := impl.LoadCounts(tree, trace); len(counts) != 0 || ok {
		t.Errorf("LoadCounts(%v, %.100q) = %v, %v", tree, trace, counts, ok)
	}
	if busiest, ok := impl.BusiestOf(tree, trace); busiest != "" || ok {
		t.Errorf("BusiestOf(%v, %.100q) = %q, %v", tree, trace, busiest, ok)
	}
	if cost, ideal, peak := impl.RunCost(tree, trace), impl.IdealCost(tree, trace), impl.PeakIn(tree, trace); cost != -1 || ideal != -1 || peak != -1 {
		t.Errorf("RunCost, IdealCost, PeakIn(%v, %.100q) = %d, %d, %d", tree, trace, cost, ideal, peak)
	}
}

func TestRunsOfTheDocument(t *testing.T) {
	tellOutline(t, mustParse(t, "A1(B1,C1)"), "BC", outline{"A+A B+B A C+C A", "", []int{1, 1, 1}, 3, 3, 2})
	tree := mustParse(t, "A4(B3,C5(D1,E2))")
	tellOutline(t, tree, "B(D)C", outline{"A+A B+B D+CD B+B A C+C A", "B", []int{1, 2, 2, 1, 0}, 21, 13, 10})
	built := mustParse(t, "A4(B3(D1),C5,E2)")
	tellOutline(t, built, "B(D)C", outline{"A+A B+B D+D B A C+C A", "", []int{1, 1, 1, 1, 0}, 13, 13, 9})
	for trace, cost := range map[string]int{"B(D)CB(D)C": 22, "B(D)B(D)CC": 13} {
		if got := impl.RunCost(built, trace); got != cost {
			t.Errorf("RunCost(%q) = %d", trace, got)
		}
	}
	for trace, cost := range map[string]int{"BCB": 8, "BBC": 6} {
		if got := impl.RunCost(mustParse(t, "A1(B2,C3)"), trace); got != cost {
			t.Errorf("RunCost(%q) = %d", trace, got)
		}
	}
}

// TestRunsOfNoCalls checks that the root alone is needed, once.
func TestRunsOfNoCalls(t *testing.T) {
	for _, text := range []string{"A1", "H99", "D4(H3(A1,B1(C9)),E5(F1,G2))", "H99(G99(F99(E99(D99(C99(B99(A99)))))))"} {
		tree := mustParse(t, text)
		root, size := tree[0].Name, tree[0].Size
		counts := make([]int, len(tree))
		counts[0] = 1
		tellOutline(t, tree, "", outline{root + "+" + root, "", counts, size, size, size})
		steps, _ := impl.StepsOf(tree, "")
		if !slices.Equal(steps, []impl.Step{{Name: root, Load: root, State: root}}) {
			t.Errorf("%s: StepsOf = %q", text, steps)
		}
		if busiest, ok := impl.BusiestOf(tree, ""); busiest != root || !ok {
			t.Errorf("%s: BusiestOf = %q, %v", text, busiest, ok)
		}
	}
}

func TestCallersThatAreLost(t *testing.T) {
	tree := mustParse(t, "A4(B3,C5(D1,E2))")
	for trace, want := range map[string]outline{
		"B(C)":    {"A+A B+B C+C B+B A", "B", []int{1, 2, 1, 0, 0}, 15, 12, 9},
		"B(DD)":   {"A+A B+B D+CD B+B D+CD B+B A", "BB", []int{1, 3, 2, 2, 0}, 25, 13, 10},
		"B(C(D))": {"A+A B+B C+C D+D C B+B A", "B", []int{1, 2, 1, 1, 0}, 16, 13, 10},
		"C(B)":    {"A+A C+C B+B C+C A", "C", []int{1, 1, 2, 0, 0}, 17, 12, 9},
		"D(B)":    {"A+A D+CD B+B D+CD A", "CD", []int{1, 1, 2, 2, 0}, 19, 13, 10},
		"D(E)":    {"A+A D+CD E+E D+D A", "D", []int{1, 0, 1, 2, 1}, 13, 12, 11},
		"E(D(B))": {"A+A E+CE D+D B+B D+CD E+E A", "CDE", []int{1, 1, 2, 2, 2}, 23, 15, 11},
		"A(B(C))": {"A+A A B+B C+C B+B A A", "B", []int{1, 2, 1, 0, 0}, 15, 12, 9},
		"D(BC)":   {"A+A D+CD B+B D+CD C D A", "CD", []int{1, 1, 2, 2, 0}, 19, 13, 10},
	} {
		tellOutline(t, tree, trace, want)
	}
	flat := mustParse(t, "A1(B2,C3,D4,E5)")
	tellOutline(t, flat, "B(C(D(E)))", outline{"A+A B+B C+C D+D E+E D+D C+C B+B A", "DCB", []int{1, 2, 2, 2, 1}, 24, 15, 6})
}

// TestCallersThatStay checks that nothing is loaded for returns where segments lie on one path.
func TestCallersThatStay(t *testing.T) {
	tree := mustParse(t, "A4(B3,C5(D1,E2))")
	for trace, want := range map[string]outline{
		"B":        {"A+A B+B A", "", []int{1, 1, 0, 0, 0}, 7, 7, 7},
		"E":        {"A+A E+CE A", "", []int{1, 0, 1, 0, 1}, 11, 11, 11},
		"C(DE)":    {"A+A C+C D+D C E+E C A", "", []int{1, 0, 1, 1, 1}, 12, 12, 11},
		"D(C)":     {"A+A D+CD C D A", "", []int{1, 0, 1, 1, 0}, 10, 10, 10},
		"D(A)C":    {"A+A D+CD A D A C A", "", []int{1, 0, 1, 1, 0}, 10, 10, 10},
		"BCB":      {"A+A B+B A C+C A B+B A", "", []int{1, 2, 1, 0, 0}, 15, 12, 9},
		"B(A)C(A)": {"A+A B+B A B A C+C A C A", "", []int{1, 1, 1, 0, 0}, 12, 12, 9},
	} {
		tellOutline(t, tree, trace, want)
	}
}

func TestRunsOfSegmentsThatCallThemselves(t *testing.T) {
	tree := mustParse(t, "A1(B2,C3(D4))")
	for trace, want := range map[string]outline{
		"A":           {"A+A A A", "", []int{1, 0, 0, 0}, 1, 1, 1},
		"A(A)":        {"A+A A A A A", "", []int{1, 0, 0, 0}, 1, 1, 1},
		"B(B)":        {"A+A B+B B B A", "", []int{1, 1, 0, 0}, 3, 3, 3},
		"B(B(B)B)":    {"A+A B+B B B B B B B A", "", []int{1, 1, 0, 0}, 3, 3, 3},
		"B(B(C)B)":    {"A+A B+B B C+C B+B B B B A", "B", []int{1, 2, 1, 0}, 8, 6, 4},
		"B(B(C)C)":    {"A+A B+B B C+C B+B B C+C B+B A", "BB", []int{1, 3, 2, 0}, 13, 6, 4},
		"B(C(B))":     {"A+A B+B C+C B+B C+C B+B A", "CB", []int{1, 3, 2, 0}, 13, 6, 4},
		"C(C(B)D)":    {"A+A C+C C B+B C+C C D+D C A", "C", []int{1, 1, 2, 1}, 13, 10, 8},
		"B(A(B))":     {"A+A B+B A B A B A", "", []int{1, 1, 0, 0}, 3, 3, 3},
		"D(D(B(BD)))": {"A+A D+CD D B+B B B D+CD B+B D+CD D A", "BCD", []int{1, 2, 3, 3}, 26, 10, 8},
	} {
		tellOutline(t, tree, trace, want)
	}
}

// TestReturnsAndCallsOfOneSegment checks that a call of a segment that is lost is told apart from a return to it.
func TestReturnsAndCallsOfOneSegment(t *testing.T) {
	tree := mustParse(t, "B1(A2,C3)")
	for trace, want := range map[string]string{"ACA": "", "A(C)": "A", "A(C)A": "A", "CA(C)": "A", "A(C(A))": "CA", "A(C(AA))": "CCA", "A(CA)": "A", "A(CC)": "AA", "C(AC)": "C", "C(B(A))": "C", "B(ACA)": ""} {
		if returns, ok := impl.ReturnLoads(tree, trace); returns != want || !ok {
			t.Errorf("ReturnLoads(%q) = %q, %v", trace, returns, ok)
		}
		tellRun(t, tree, trace)
	}
}

// TestBusiestIsTheFirst checks that of segments that are loaded equally often the first one in the tree is the busiest.
func TestBusiestIsTheFirst(t *testing.T) {
	for _, c := range []struct{ text, trace, want string }{
		{"D1(C1,B1)", "", "D"}, {"D1(C1,B1)", "B", "D"}, {"D1(C1,B1)", "BC", "D"}, {"D1(C1,B1)", "BCB", "B"}, {"D1(C1,B1)", "CBC", "C"},
		{"D1(C1,B1)", "BCBC", "C"}, {"D1(C1,B1)", "CBCB", "C"}, {"D1(C1,B1)", "BCBCB", "B"}, {"D1(C1,B9)", "CBCB", "C"}, {"D99(C1,B1)", "CBC", "C"},
		{"A1(B1(C1,D1),E1)", "CDCD", "C"}, {"A1(B1(C1,D1),E1)", "CECE", "B"}, {"A1(B1(C1,D1),E1)", "ECECE", "E"}, {"A1(B1(C1,D1),E1)", "CDCEC", "C"},
		{"A1(B1,C1,D1,E1,F1,G1,H1)", "HGHG", "G"}, {"A1(B1,C1,D1,E1,F1,G1,H1)", "HGH", "H"},
	} {
		if busiest, ok := impl.BusiestOf(mustParse(t, c.text), c.trace); busiest != c.want || !ok {
			t.Errorf("BusiestOf(%s, %q) = %q, %v", c.text, c.trace, busiest, ok)
		}
	}
}

func TestRunsWithinAllTrees(t *testing.T) {
	for n := 1; n <= 4; n++ {
		for _, parents := range preorders(n) {
			for _, tree := range treesOfShape(parents) {
				names, _ := impl.NamesOf(tree)
				for _, trace := range tracesOver(names, 5) {
					tellRun(t, tree, trace)
				}
			}
		}
	}
	for _, parents := range preorders(impl.MaxSegments) {
		for _, tree := range treesOfShape(parents) {
			tellRun(t, tree, "A(BC(DE)F(G(H)))BH(G(F)E)DC")
			tellRun(t, tree, nested("HGFEDCBA")+nested("AACCAACC")+"EDG")
		}
	}
}

// TestTextsOfRuns checks all texts of up to so many of some bytes: those that are built as calls run, and no others.
func TestTextsOfRuns(t *testing.T) {
	for _, c := range []struct {
		text, letters, bytes string
		n                    int
	}{{"B1(A1)", "BA", "AB()C", 5}, {"G7", "G", "G()", 9}} {
		tree := mustParse(t, c.text)
		valid := tracesOver(c.letters, c.n)
		for _, trace := range textsOver(c.bytes, c.n) {
			if slices.Contains(valid, trace) {
				tellRun(t, tree, trace)
			} else {
				checkNoRun(t, tree, trace)
			}
		}
	}
}

// TestRunsAreNeedsMet checks runs against chapters 3 and 4, as far as these go.
func TestRunsAreNeedsMet(t *testing.T) {
	for _, text := range []string{"A4(B3,C5(D1,E2))", "E4(C3(A5),B1(D2))", "C4(B3(A5(E1(D2))))", "B1(A1,C1,D1,E1)"} {
		tree := mustParse(t, text)
		for _, trace := range []string{"", "B(D)C", "B(D(E(A)B)C)E", nested("ABCDEDCB"), "C(C(B)D)BA(D(C))", strings.Repeat("B(D)", 14), strings.Repeat("DB", 14) + "C"} {
			needs, _ := impl.NeedsOf(tree, trace)
			loads, _ := impl.LoadsIn(tree, trace)
			steps, _ := impl.StepsOf(tree, trace)
			tellNeeds(t, tree, "", needs, steps[len(steps)-1].State, loads)
			loaded := ""
			for i, s := range steps {
				if state, load, ok := impl.NeedOf(tree, loaded, needs[i:i+1]); s != (impl.Step{Name: needs[i : i+1], Load: load, State: state}) || !ok {
					t.Errorf("%s: step %d of %q is %q", text, i, trace, s)
				}
				loaded = s.State
			}
			if cost := impl.CostOf(tree, loads); cost != impl.RunCost(tree, trace) {
				t.Errorf("%s: RunCost(%q) is not %d", text, trace, cost)
			}
		}
	}
}

// TestLongestRuns checks traces of 80 bytes, whose needs are more than can be met at once.
func TestLongestRuns(t *testing.T) {
	tree := mustParse(t, "A4(B3,C5(D1,E2))")
	for trace, want := range map[string]outline{
		strings.Repeat("B", 80):              {"A+A B+B A" + strings.Repeat(" B A", 79), "", []int{1, 1, 0, 0, 0}, 7, 7, 7},
		strings.Repeat("BC", 40):             {"A+A" + strings.Repeat(" B+B A C+C A", 40), "", []int{1, 40, 40, 0, 0}, 324, 12, 9},
		strings.Repeat("B(D)", 20):           {"A+A B+B D+CD B+B A" + strings.Repeat(" B D+CD B+B A", 19), strings.Repeat("B", 20), []int{1, 21, 20, 20, 0}, 187, 13, 10},
		strings.Repeat("B(C(D))E", 10):       {"A+A" + strings.Repeat(" B+B C+C D+D C B+B A E+CE A", 10), strings.Repeat("B", 10), []int{1, 20, 20, 10, 10}, 194, 15, 11},
		"B(" + strings.Repeat("D", 77) + ")": {"A+A B+B" + strings.Repeat(" D+CD B+B", 77) + " A", strings.Repeat("B", 77), []int{1, 78, 77, 77, 0}, 700, 13, 10},
	} {
		if len(trace) != impl.MaxTrace {
			t.Fatalf("%q has %d bytes", trace, len(trace))
		}
		tellOutline(t, tree, trace, want)
	}
	if steps, ok := impl.StepsOf(tree, strings.Repeat("B", 80)); len(steps) != 161 || !ok {
		t.Errorf("StepsOf eighty calls has %d steps", len(steps))
	}
	for _, trace := range []string{
		strings.Repeat("B", 81), strings.Repeat("B(D)", 20) + "E", "E" + strings.Repeat("B(D)", 20), "B(" + strings.Repeat("D", 78) + ")", strings.Repeat("B", 160),
		strings.Repeat("B", 1000000), strings.Repeat("B(", 1000000), strings.Repeat("(", 1000000), strings.Repeat(" ", 81), strings.Repeat("B", 80) + "\x00",
	} {
		checkNoRun(t, tree, trace)
	}
}

func TestDeepestRuns(t *testing.T) {
	tree := mustParse(t, "A4(B3,C5(D1,E2))")
	tellOutline(t, tree, nested("BDBDBDBD"), outline{
		"A+A B+B D+CD B+B D+CD B+B D+CD B+B D+CD B+B D+CD B+B D+CD B+B D+CD B+B A", "BCDBCDBCDB", []int{1, 8, 7, 7, 0}, 70, 13, 10,
	})
	tellOutline(t, tree, nested("BBBBBBBB"), outline{"A+A B+B" + strings.Repeat(" B", 14) + " A", "", []int{1, 1, 0, 0, 0}, 7, 7, 7})
	chain := mustParse(t, "H99(G99(F99(E99(D99(C99(B99(A99)))))))")
	tellOutline(t, chain, nested("HGFEDCBA"), outline{"H+H H G+G F+F E+E D+D C+C B+B A+A B C D E F G H H", "", []int{1, 1, 1, 1, 1, 1, 1, 1}, 792, 792, 792})
	tellOutline(t, chain, "A", outline{"H+H A+GFEDCBA H", "", []int{1, 1, 1, 1, 1, 1, 1, 1}, 792, 792, 792})
	flat := mustParse(t, "H99(G99,F99,E99,D99,C99,B99,A99)")
	tellOutline(t, flat, nested("AHGFEDCB"), outline{"H+H A+A H G+G F+F E+E D+D C+C B+B C+C D+D E+E F+F G+G H A+A H", "CDEFGA", []int{1, 2, 2, 2, 2, 2, 1, 2}, 1386, 792, 198})
	for _, trace := range []string{nested("BDBDBDBD") + nested("BBBBBBBB") + "E", "B(C(D(E(B(C(D(BCDE)))))))", "E" + nested("DCBAEDCB")} {
		tellRun(t, tree, trace)
	}
	for _, trace := range []string{nested("BBBBBBBBB"), nested("BDBDBDBDB"), "C" + nested("BBBBBBBBB"), nested("BBBBBBBB") + nested("BCDEABCDE"), nested(strings.Repeat("B", 27)), nested(strings.Repeat("B", 1000))} {
		checkNoRun(t, tree, trace)
	}
}

func TestRunsOfTextsOfNoTrace(t *testing.T) {
	tree := mustParse(t, "A4(B3,C5(D1,E2))")
	for _, trace := range textsOfNoTrace() {
		checkNoRun(t, tree, trace)
	}
}

func TestRunsOfNoSegment(t *testing.T) {
	for _, tree := range [][]impl.Segment{mustParse(t, "B1"), mustParse(t, "B2(D3)"), mustParse(t, "D3(B2,H1)")} {
		for _, other := range []string{"A", "C", "E", "F", "G", "I", "b"} {
			for _, trace := range []string{other, "B" + other, other + "B", "B(" + other + ")", other + "(B)", "B(B)" + other} {
				checkNoRun(t, tree, trace)
			}
		}
	}
}

func TestRunsWithinInvalidTrees(t *testing.T) {
	for _, tree := range invalidTrees() {
		for _, trace := range []string{"", "A", "B", "B(A)C", "I", "()"} {
			checkNoRun(t, tree, trace)
		}
	}
}

// TestTextsOfSteps checks steps as they come, also those of no run.
func TestTextsOfSteps(t *testing.T) {
	for _, c := range []struct {
		steps []impl.Step
		want  string
	}{
		{nil, "-"}, {[]impl.Step{}, "-"}, {make([]impl.Step, 1), ""}, {make([]impl.Step, 2), " "}, {make([]impl.Step, 4), "   "},
		{[]impl.Step{{Name: "A"}}, "A"}, {[]impl.Step{{Name: "A", State: "AB"}}, "A"}, {[]impl.Step{{Name: "A", Load: "A", State: "A"}}, "A+A"}, {[]impl.Step{{Name: "D", Load: "CD"}}, "D+CD"},
		{[]impl.Step{{Load: "CD"}}, "+CD"}, {[]impl.Step{{}, {Name: "A"}}, " A"}, {[]impl.Step{{Name: "A"}, {}}, "A "}, {[]impl.Step{{Name: "A"}, {Load: "B"}, {Name: "C", Load: "-"}}, "A +B C+-"},
		{[]impl.Step{{Name: "Z", Load: "z", State: "!"}, {Name: " ", Load: " "}, {Name: "\xff\x00", Load: "é\n"}, {Name: "+", Load: "+"}}, "Z+z  +  \xff\x00+é\n +++"},
	} {
		kept := slices.Clone(c.steps)
		if text := impl.FormatSteps(c.steps); text != c.want || !slices.Equal(c.steps, kept) {
			t.Errorf("FormatSteps(%q) = %q", kept, text)
		}
	}
	if text := impl.FormatSteps(slices.Repeat([]impl.Step{{Name: "A", Load: "B"}}, 100000)); text != strings.TrimSuffix(strings.Repeat("A+B ", 100000), " ") {
		t.Errorf("FormatSteps of many steps has %d bytes", len(text))
	}
}

func TestRunsChangeNoTree(t *testing.T) {
	row := mustParse(t, "A4(B3,C5(D1,E2),F1)")
	kept := slices.Clone(row)
	tellRun(t, row[:5], "B(D)C(B(E)E)")
	if !slices.Equal(row, kept) {
		t.Errorf("a function changed its argument to %v", row)
	}
}

func TestRunsShareNothing(t *testing.T) {
	tree := mustParse(t, "A4(B3,C5(D1,E2))")
	trace := "B(D)C(B(E)E)"
	keptSteps, _ := impl.StepsOf(tree, trace)
	keptCounts, _ := impl.LoadCounts(tree, trace)
	steps, _ := impl.StepsOf(tree, trace)
	counts, _ := impl.LoadCounts(tree, trace)
	clear(steps[:cap(steps)])
	clear(counts[:cap(counts)])
	want := runningOf(tree, trace)
	if !slices.Equal(keptSteps, want.steps) || !slices.Equal(keptCounts, want.counts) {
		t.Errorf("a change of one result changes another one: %q, %v", keptSteps, keptCounts)
	}
	tellRun(t, tree, trace)
}

// TestRunsSideBySide checks that runs told at the same time are told as those told alone.
func TestRunsSideBySide(t *testing.T) {
	tree := mustParse(t, "A4(B3,C5(D1,E2))")
	var told sync.WaitGroup
	for _, trace := range []string{"", "BC", "B(D)C", "D(B)", nested("BDBDBDBD"), strings.Repeat("BC", 40)} {
		want := runningOf(tree, trace)
		for range 20 {
			told.Go(func() {
				if cost, ideal, peak := impl.RunCost(tree, trace), impl.IdealCost(tree, trace), impl.PeakIn(tree, trace); cost != want.cost || ideal != want.ideal || peak != want.peak {
					t.Errorf("RunCost, IdealCost, PeakIn(%q) = %d, %d, %d", trace, cost, ideal, peak)
				}
			})
		}
	}
	told.Wait()
}
