package tests

import (
	"slices"
	"strings"
	"testing"

	"loop.example/segmentrooms/impl"
)

// A telling is what is told of a trace.
type telling struct {
	needs  string
	chains []string
	pairs  []string
	calls  []int
	depth  int
}

// tellingOf returns what is told of a valid trace, read byte by byte with the segments that are active as a text:
// a call returns at once if no parenthesis follows, and where its own one ends otherwise.
func tellingOf(tree []impl.Segment, trace string) telling {
	active := tree[0].Name
	want := telling{needs: active, calls: make([]int, len(tree))}
	for i := range len(trace) {
		if trace[i] == '(' {
			continue
		}
		if trace[i] == ')' {
			active = active[:len(active)-1]
		} else {
			chain := active + trace[i:i+1]
			want.chains = append(want.chains, chain)
			want.depth = max(want.depth, len(chain)-1)
			want.needs += trace[i : i+1]
			if strings.HasPrefix(trace[i+1:], "(") {
				active = chain
				continue
			}
		}
		want.needs += active[len(active)-1:]
	}
	for i, s := range tree {
		want.calls[i] = strings.Count(trace, s.Name)
	}
	for _, pair := range textsOver("ABCDEFGH", 2)[1+impl.MaxSegments:] {
		if slices.ContainsFunc(want.chains, func(chain string) bool { return strings.HasSuffix(chain, pair) }) {
			want.pairs = append(want.pairs, pair)
		}
	}
	return want
}

// cutCalls returns a valid trace from which the calls of a segment are cut one by one, each as far as its parentheses go.
func cutCalls(trace, name string) string {
	for strings.Contains(trace, name) {
		begin := strings.Index(trace, name)
		end := begin + 1
		if strings.HasPrefix(trace[end:], "(") {
			for open := 1; open > 0; {
				end++
				switch trace[end] {
				case '(':
					open++
				case ')':
					open--
				}
			}
			end++
		}
		trace = strings.Replace(trace[:begin]+trace[end:], "()", "", 1)
	}
	return trace
}

// tracesOver returns all texts of up to n bytes that are traces of calls of these segments, if they are not too deep.
func tracesOver(letters string, n int) []string {
	bySize := [][]string{{""}}
	callsBySize := [][]string{nil}
	for size := 1; size <= n; size++ {
		var calls, traces []string
		for _, letter := range strings.Split(letters, "") {
			if size == 1 {
				calls = append(calls, letter)
			}
			if size >= 4 {
				for _, within := range bySize[size-3] {
					calls = append(calls, letter+"("+within+")")
				}
			}
		}
		callsBySize = append(callsBySize, calls)
		for first := 1; first <= size; first++ {
			for _, call := range callsBySize[first] {
				for _, others := range bySize[size-first] {
					traces = append(traces, call+others)
				}
			}
		}
		bySize = append(bySize, traces)
	}
	return slices.Concat(bySize...)
}

// tellTrace checks all that is told of a valid trace.
func tellTrace(t *testing.T, tree []impl.Segment, trace string) {
	t.Helper()
	checkTelling(t, tree, trace, tellingOf(tree, trace))
	for _, s := range tree {
		tellWithout(t, tree, trace, s.Name, cutCalls(trace, s.Name))
	}
	twice, ok := impl.Twice(tree, trace)
	if short := 2*len(trace) <= impl.MaxTrace; ok != short || short && twice != trace+trace || !short && twice != "" {
		t.Fatalf("Twice(%v, %q) = %q, %v", tree, trace, twice, ok)
	}
}

func checkTelling(t *testing.T, tree []impl.Segment, trace string, want telling) {
	t.Helper()
	if !impl.TraceValid(tree, trace) {
		t.Fatalf("TraceValid(%v, %q)", tree, trace)
	}
	if needs, ok := impl.NeedsOf(tree, trace); needs != want.needs || !ok {
		t.Fatalf("NeedsOf(%v, %q) = %q, %v, not %q", tree, trace, needs, ok, want.needs)
	}
	if chains, ok := impl.ChainsOf(tree, trace); !slices.Equal(chains, want.chains) || !ok {
		t.Fatalf("ChainsOf(%v, %q) = %q, %v, not %q", tree, trace, chains, ok, want.chains)
	}
	if pairs, ok := impl.PairsOf(tree, trace); !slices.Equal(pairs, want.pairs) || !ok {
		t.Fatalf("PairsOf(%v, %q) = %q, %v, not %q", tree, trace, pairs, ok, want.pairs)
	}
	if calls, ok := impl.CallsOf(tree, trace); !slices.Equal(calls, want.calls) || !ok {
		t.Fatalf("CallsOf(%v, %q) = %v, %v, not %v", tree, trace, calls, ok, want.calls)
	}
	if count, depth := impl.CountCalls(tree, trace), impl.DepthOf(tree, trace); count != len(want.chains) || depth != want.depth {
		t.Fatalf("CountCalls, DepthOf(%v, %q) = %d, %d, not %d, %d", tree, trace, count, depth, len(want.chains), want.depth)
	}
}

func tellWithout(t *testing.T, tree []impl.Segment, trace, name, want string) {
	t.Helper()
	if left, ok := impl.Without(tree, trace, name); left != want || !ok {
		t.Fatalf("Without(%v, %q, %s) = %q, %v, not %q", tree, trace, name, left, ok, want)
	}
}

// checkNoTrace checks what is returned where a tree is not valid or a text is no trace within it.
func checkNoTrace(t *testing.T, tree []impl.Segment, trace string) {
	t.Helper()
	if impl.TraceValid(tree, trace) {
		t.Errorf("TraceValid(%v, %.100q)", tree, trace)
	}
	if needs, ok := impl.NeedsOf(tree, trace); needs != "" || ok {
		t.Errorf("NeedsOf(%v, %.100q) = %q, %v", tree, trace, needs, ok)
	}
	if count, depth := impl.CountCalls(tree, trace), impl.DepthOf(tree, trace); count != -1 || depth != -1 {
		t.Errorf("CountCalls, DepthOf(%v, %.100q) = %d, %d", tree, trace, count, depth)
	}
	if pairs, ok := impl.PairsOf(tree, trace); len(pairs) != 0 || ok {
		t.Errorf("PairsOf(%v, %.100q) = %q, %v", tree, trace, pairs, ok)
	}
	if chains, ok := impl.ChainsOf(tree, trace); len(chains) != 0 || ok {
		t.Errorf("ChainsOf(%v, %.100q) = %q, %v", tree, trace, chains, ok)
	}
	if calls, ok := impl.CallsOf(tree, trace); len(calls) != 0 || ok {
		t.Errorf("CallsOf(%v, %.100q) = %v, %v", tree, trace, calls, ok)
	}
	if twice, ok := impl.Twice(tree, trace); twice != "" || ok {
		t.Errorf("Twice(%v, %.100q) = %q, %v", tree, trace, twice, ok)
	}
	for _, name := range []string{"A", "B", "C", "E", "I", ""} {
		checkNotWithout(t, tree, trace, name)
	}
}

// checkNotWithout checks what is returned where also a name may be that of no segment.
func checkNotWithout(t *testing.T, tree []impl.Segment, trace, name string) {
	t.Helper()
	if left, ok := impl.Without(tree, trace, name); left != "" || ok {
		t.Errorf("Without(%v, %.100q, %q) = %q, %v", tree, trace, name, left, ok)
	}
}

// nested returns calls of these segments, each within the one ahead of it.
func nested(names string) string {
	return strings.Join(strings.Split(names, ""), "(") + strings.Repeat(")", len(names)-1)
}

func TestTraceOfTheDocument(t *testing.T) {
	tree := mustParse(t, "A1(B1(D1),C1)")
	checkTelling(t, tree, "B(D)C", telling{"ABDBACA", []string{"AB", "ABD", "AC"}, []string{"AB", "AC", "BD"}, []int{0, 1, 1, 1}, 2})
	for name, want := range map[string]string{"A": "B(D)C", "B": "C", "C": "B(D)", "D": "BC"} {
		tellWithout(t, tree, "B(D)C", name, want)
	}
	if twice, ok := impl.Twice(tree, "B(D)C"); twice != "B(D)CB(D)C" || !ok {
		t.Errorf("Twice = %q, %v", twice, ok)
	}
}

func TestTracesOfNoCalls(t *testing.T) {
	for _, text := range []string{"A1", "H99", "D4(H3(A1,B1(C9)),E5(F1,G2))", "H99(G99(F99(E99(D99(C99(B99(A99)))))))"} {
		tree := mustParse(t, text)
		checkTelling(t, tree, "", telling{needs: text[:1], calls: make([]int, len(tree))})
		for _, s := range tree {
			tellWithout(t, tree, "", s.Name, "")
		}
		if twice, ok := impl.Twice(tree, ""); twice != "" || !ok {
			t.Errorf("%s: Twice = %q, %v", text, twice, ok)
		}
	}
}

func TestSegmentsThatCallThemselves(t *testing.T) {
	tree := mustParse(t, "D1(B1(A1),C1)")
	for trace, want := range map[string]telling{
		"D":          {"DDD", []string{"DD"}, []string{"DD"}, []int{1, 0, 0, 0}, 1},
		"D(D)":       {"DDDDD", []string{"DD", "DDD"}, []string{"DD"}, []int{2, 0, 0, 0}, 2},
		"B(B)":       {"DBBBD", []string{"DB", "DBB"}, []string{"BB", "DB"}, []int{0, 2, 0, 0}, 2},
		"B(B(B)B)":   {"DBBBBBBBD", []string{"DB", "DBB", "DBBB", "DBB"}, []string{"BB", "DB"}, []int{0, 4, 0, 0}, 3},
		"B(D(B))":    {"DBDBDBD", []string{"DB", "DBD", "DBDB"}, []string{"BD", "DB"}, []int{1, 2, 0, 0}, 3},
		"DDD":        {"DDDDDDD", []string{"DD", "DD", "DD"}, []string{"DD"}, []int{3, 0, 0, 0}, 1},
		"C(A(C(A)))": {"DCACACACD", []string{"DC", "DCA", "DCAC", "DCACA"}, []string{"AC", "CA", "DC"}, []int{0, 0, 2, 2}, 4},
	} {
		checkTelling(t, tree, trace, want)
	}
	for _, c := range []struct{ trace, name, want string }{
		{"D", "D", ""}, {"D(D)", "D", ""}, {"B(B)", "B", ""}, {"B(B(B)B)C", "B", "C"}, {"B(D(B))", "D", "B"}, {"B(D(B))", "B", ""}, {"C(A(C(A)))", "A", "C"},
	} {
		tellWithout(t, tree, c.trace, c.name, c.want)
	}
}

func TestCallsThatAreLeft(t *testing.T) {
	tree := mustParse(t, "A1(B1(D1,E1),C1)")
	for _, c := range []struct{ trace, name, want string }{
		{"B(D)", "D", "B"}, {"B(DD)", "D", "B"}, {"B(D(E))", "D", "B"}, {"B(D(E))", "E", "B(D)"}, {"B(D(E)E)", "D", "B(E)"}, {"B(ED(E))", "D", "B(E)"},
		{"B(C(D))C(D)", "D", "B(C)C"}, {"B(C(D)D)C(DB)", "D", "B(C)C(B)"}, {"B(C(DD(E))D)C", "D", "B(C)C"}, {"B(C(D(E(D))))", "D", "B(C)"},
		{"B(B(D)C)", "D", "B(BC)"}, {"D(B(C))C(D(B))B", "D", "CB"}, {"D", "D", ""}, {"DDD", "D", ""}, {"DBDCD", "D", "BC"}, {"D(B(C))", "D", ""},
		{"B(E)C", "D", "B(E)C"}, {"B(A)C", "A", "BC"}, {"A(B)C", "A", "C"}, {"B", "A", "B"},
	} {
		tellWithout(t, tree, c.trace, c.name, c.want)
	}
}

// TestOrdersOfTellings checks that pairs are in the order of the alphabet, counts in that of the tree, and chains in that of the calls.
func TestOrdersOfTellings(t *testing.T) {
	tree := mustParse(t, "H1(C1(G1),B1,A1)")
	checkTelling(t, tree, "G(BA)C(A)GA(H(C)B)", telling{
		"HGBGAGHCACHGHAHCHABAH",
		[]string{"HG", "HGB", "HGA", "HC", "HCA", "HG", "HA", "HAH", "HAHC", "HAB"},
		[]string{"AB", "AH", "CA", "GA", "GB", "HA", "HC", "HG"},
		[]int{1, 2, 2, 2, 3}, 3,
	})
}

func TestTracesWithinAllTrees(t *testing.T) {
	for n := 1; n <= 4; n++ {
		for _, parents := range preorders(n) {
			for _, tree := range treesOfShape(parents) {
				names, _ := impl.NamesOf(tree)
				for _, trace := range tracesOver(names, 5) {
					tellTrace(t, tree, trace)
				}
			}
		}
	}
	for _, parents := range preorders(impl.MaxSegments) {
		for _, tree := range treesOfShape(parents) {
			tellTrace(t, tree, "A(BC(DE)F(G(H)))BH(G(F)E)DC")
			tellTrace(t, tree, nested("HGFEDCBA")+nested("AACCAACC")+"EDG")
		}
	}
}

// TestTextsOfTraces checks all texts of up to so many of some bytes: those that are built as calls are traces, and no others.
func TestTextsOfTraces(t *testing.T) {
	for _, c := range []struct {
		text, letters, bytes string
		n                    int
	}{{"B1(A1)", "BA", "AB()C", 6}, {"G7", "G", "G()", 10}, {"A1(B1)", "AB", "A(),1", 6}} {
		tree := mustParse(t, c.text)
		valid := map[string]bool{}
		for _, trace := range tracesOver(c.letters, c.n) {
			valid[trace] = true
			tellTrace(t, tree, trace)
		}
		for _, trace := range textsOver(c.bytes, c.n) {
			if !valid[trace] {
				checkNoTrace(t, tree, trace)
			}
		}
	}
}

// textsOfNoTrace returns texts of at most 80 bytes that are no trace within a tree of A to E.
func textsOfNoTrace() []string {
	return []string{
		"F", "H", "I", "@", "a", "b", "BF", "FB", "B(F)", "F(B)", "B(D)F", "B(DF)", "B(D(F))",
		"(", ")", "()", "(B)", "(B", "B)", "B(", "B()", "B(D", "B(D))", "B((D))", "B(D)(D)", "B(D()", "B(D())", "B()D", "B(D)()", "B(C)D(", "B)(D", "()B", "((B))", "B(D)E)",
		" ", "-", " B", "B ", "B C", "B,C", "B(D,E)", "B(D) C", "B(D)\n", "\n", "B\x00", "\x00", "\xff", "B\xff", "B(\xff)", "é", "B4", "B3(D1)", "4", "B[D]", "B{D}", "B<D>", "A4(B3,C5(D1,E2))",
		"ＢＣ", "B（D）", strings.Repeat("(", 80), strings.Repeat(")", 80), strings.Repeat("B(", 40), strings.Repeat("B(", 4) + strings.Repeat(")", 4),
	}
}

func TestTextsOfNoTrace(t *testing.T) {
	tree := mustParse(t, "A4(B3,C5(D1,E2))")
	for _, trace := range textsOfNoTrace() {
		checkNoTrace(t, tree, trace)
	}
}

func TestNamesNotOfTheTree(t *testing.T) {
	for i := range impl.MaxSegments {
		name := "ABCDEFGH"[i : i+1]
		tree := []impl.Segment{{Name: name, Size: 1, Parent: -1}}
		for _, other := range []string{"A", "B", "C", "D", "E", "F", "G", "H"} {
			if other == name {
				tellTrace(t, tree, other+nested(other+other))
				continue
			}
			checkNoTrace(t, tree, other)
			checkNoTrace(t, tree, name+"("+other+")")
			for _, trace := range []string{"", name, nested(name + name)} {
				checkNotWithout(t, tree, trace, other)
			}
		}
	}
}

func TestWithoutNoSegment(t *testing.T) {
	tree := mustParse(t, "A4(B3,C5(D1,E2))")
	for _, name := range []string{"", "F", "H", "I", "a", "b", "AB", "BC", "B(D)", "B(D)C", "(", ")", " ", " B", "B ", "B3", "\xff", "\x00", "é"} {
		for _, trace := range []string{"", "B", "B(D)C", "B(D(E))"} {
			checkNotWithout(t, tree, trace, name)
		}
	}
}

func TestLongestTraces(t *testing.T) {
	tree := mustParse(t, "A4(B3,C5(D1,E2))")
	for _, trace := range []string{
		strings.Repeat("B", 80), strings.Repeat("A", 79), strings.Repeat("BC", 40), strings.Repeat("B(D)", 20), strings.Repeat("B(C(D))E", 10),
		"B(" + strings.Repeat("D", 77) + ")", strings.Repeat("BCDE", 10), strings.Repeat("B(D)", 10), "B(" + strings.Repeat("D", 37) + ")", "B(" + strings.Repeat("D", 38) + ")",
	} {
		if len(trace) > impl.MaxTrace {
			t.Fatalf("%q has %d bytes", trace, len(trace))
		}
		tellTrace(t, tree, trace)
	}
	for _, trace := range []string{
		strings.Repeat("B", 81), strings.Repeat("B", 82), strings.Repeat("B(D)", 20) + "E", "E" + strings.Repeat("B(D)", 20), "B(" + strings.Repeat("D", 78) + ")",
		strings.Repeat("B(D)", 21), strings.Repeat("B", 160), strings.Repeat("B", 1000000), strings.Repeat("B(", 1000000), strings.Repeat("(", 1000000), strings.Repeat(" ", 81), strings.Repeat("B", 80) + "\x00",
	} {
		checkNoTrace(t, tree, trace)
	}
	if needs, _ := impl.NeedsOf(tree, strings.Repeat("B", 80)); needs != "A"+strings.Repeat("BA", 80) {
		t.Errorf("NeedsOf eighty calls = %q", needs)
	}
}

func TestTwiceAsLong(t *testing.T) {
	tree := mustParse(t, "A4(B3,C5(D1,E2))")
	for _, trace := range []string{strings.Repeat("B", 39), strings.Repeat("B", 40), strings.Repeat("B(D)", 10), "B(" + strings.Repeat("D", 37) + ")"} {
		if twice, ok := impl.Twice(tree, trace); twice != trace+trace || !ok {
			t.Errorf("Twice(%q) = %q, %v", trace, twice, ok)
		}
	}
	for _, trace := range []string{strings.Repeat("B", 41), strings.Repeat("B(D)", 10) + "E", "B(" + strings.Repeat("D", 38) + ")", strings.Repeat("B", 80)} {
		if twice, ok := impl.Twice(tree, trace); twice != "" || ok || !impl.TraceValid(tree, trace) {
			t.Errorf("Twice(%q) = %q, %v", trace, twice, ok)
		}
	}
}

func TestDeepestTraces(t *testing.T) {
	tree := mustParse(t, "A4(B3,C5(D1,E2))")
	for _, trace := range []string{
		nested("BBBBBBBB"), nested("AAAAAAAA"), nested("BCDEABCD"), "C" + nested("BBBBBBBB"), nested("BBBBBBBB") + "C", nested("BCDEABCD") + nested("DCBAEDCB"),
		"B(C(D(E(B(C(D(BCDE)))))))", "B(C(D(E(B(C(DDDE(A)E))))))", "B(B)" + nested("BBBBBBBB") + "B(B)", strings.Repeat("B(D)", 20), "B(" + strings.Repeat("C(D)", 15) + ")",
	} {
		tellTrace(t, tree, trace)
	}
	for names, want := range map[string]int{"B": 1, "BB": 2, "BBBBBBB": 7, "BBBBBBBB": 8} {
		if depth := impl.DepthOf(tree, nested(names)); depth != want {
			t.Errorf("DepthOf(%q) = %d", nested(names), depth)
		}
	}
	for _, trace := range []string{
		nested("BBBBBBBBB"), nested("AAAAAAAAA"), nested("BCDEABCDE"), nested("BBBBBBBBBB"), "C" + nested("BBBBBBBBB"), nested("BBBBBBBBB") + "C", nested("BBBBBBBB") + nested("BBBBBBBBB"),
		"B(C(D(E(B(C(D(BCD(E)E)))))))", "B(C" + nested("BBBBBBBB") + ")", nested(strings.Repeat("B", 27)), nested(strings.Repeat("B", 1000)),
	} {
		checkNoTrace(t, tree, trace)
	}
}

func TestTracesWithinInvalidTrees(t *testing.T) {
	for _, tree := range invalidTrees() {
		for _, trace := range []string{"", "A", "B", "B(A)C", "I", "()"} {
			checkNoTrace(t, tree, trace)
		}
	}
}

func TestTracesChangeNoTree(t *testing.T) {
	row := mustParse(t, "A4(B3,C5(D1,E2),F1)")
	kept := slices.Clone(row)
	tellTrace(t, row[:5], "B(D)C(B(E)E)")
	if !slices.Equal(row, kept) {
		t.Errorf("a function changed its argument to %v", row)
	}
}

func TestTellingsShareNothing(t *testing.T) {
	tree := mustParse(t, "A4(B3,C5(D1,E2))")
	trace := "B(D)C(B(E)E)"
	for range 2 {
		checkTelling(t, tree, trace, tellingOf(tree, trace))
		chains, _ := impl.ChainsOf(tree, trace)
		pairs, _ := impl.PairsOf(tree, trace)
		calls, _ := impl.CallsOf(tree, trace)
		clear(append(chains, "H"))
		clear(append(pairs, "H"))
		clear(append(calls, 7))
	}
}
