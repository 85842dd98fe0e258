package tests

import (
	"math"
	"slices"
	"strings"
	"testing"

	"loop.example/segmentrooms/impl"
)

// A kinding is what is told of the kinds of the calls of a trace.
type kinding struct {
	counts [3]int
	unsafe string
	lost   string
}

// kindIn returns the kind of a call between the segments at two indices, by what a need for the called one does
// where the path of the caller is loaded: for a call up nothing is loaded, and by one down nothing is lost.
func kindIn(tree []impl.Segment, caller, called int) int {
	met := meetingOf(tree, pathIn(tree, caller), called)
	if met.load == "" {
		return impl.CallUp
	}
	if met.drops == "" {
		return impl.CallDown
	}
	return impl.CallSide
}

// liesIn reports whether all that a text names is loaded in one of the states.
func liesIn(tree []impl.Segment, chain string) bool {
	return slices.ContainsFunc(statesIn(tree), func(loaded string) bool { return strings.Trim(chain, loaded) == "" })
}

// kindingOf returns what is told of the kinds of the calls of a valid trace.
// What is lost is told by the run: segments that are active at a call, but not loaded behind the need for the called one.
func kindingOf(tree []impl.Segment, trace string) kinding {
	var want kinding
	var unsafe []string
	lost := ""
	indexOf := func(name byte) int {
		return slices.IndexFunc(tree, func(s impl.Segment) bool { return s.Name[0] == name })
	}
	chains := tellingOf(tree, trace).chains
	returns := returnsIn(trace)
	for i, step := range runningOf(tree, trace).steps {
		if i == 0 || returns[i] {
			continue
		}
		chain := chains[0]
		chains = chains[1:]
		want.counts[kindIn(tree, indexOf(chain[len(chain)-2]), indexOf(chain[len(chain)-1]))]++
		lost += strings.Join(strings.FieldsFunc(chain, func(name rune) bool { return strings.ContainsRune(step.State, name) }), "")
		if at, found := slices.BinarySearch(unsafe, chain); !found && !liesIn(tree, chain) {
			unsafe = slices.Insert(unsafe, at, chain)
		}
	}
	for _, s := range tree {
		if strings.Contains(lost, s.Name) {
			want.lost += s.Name
		}
	}
	want.unsafe = strings.Join(unsafe, " ")
	return want
}

// tellKinds checks all that is told of the kinds of the calls of a valid trace.
func tellKinds(t *testing.T, tree []impl.Segment, trace string) {
	t.Helper()
	checkKinds(t, tree, trace, kindingOf(tree, trace))
}

func checkKinds(t *testing.T, tree []impl.Segment, trace string, want kinding) {
	t.Helper()
	if counts, ok := impl.KindCounts(tree, trace); !slices.Equal(counts, want.counts[:]) || !ok {
		t.Fatalf("KindCounts(%v, %q) = %v, %v, not %v", tree, trace, counts, ok, want.counts)
	}
	chains, ok := impl.UnsafeChains(tree, trace)
	if strings.Join(chains, " ") != want.unsafe || slices.Contains(chains, "") || !ok {
		t.Fatalf("UnsafeChains(%v, %q) = %q, %v, not %q", tree, trace, chains, ok, want.unsafe)
	}
	if lost, ok := impl.LostIn(tree, trace); lost != want.lost || !ok {
		t.Fatalf("LostIn(%v, %q) = %q, %v, not %q", tree, trace, lost, ok, want.lost)
	}
	safe := impl.IsSafe(tree, trace)
	if safe != (want.unsafe == "") || safe != (want.lost == "") {
		t.Fatalf("IsSafe(%v, %q) = %v, where %q is unsafe and %q lost", tree, trace, safe, want.unsafe, want.lost)
	}
	if returns, ok := impl.ReturnLoads(tree, trace); safe && returns != "" || !ok {
		t.Fatalf("IsSafe(%v, %q), but ReturnLoads = %q, %v", tree, trace, returns, ok)
	}
	checkChains(t, tree, trace, chains)
}

// checkChains checks that all chains of a trace lie together but those that are unsafe.
func checkChains(t *testing.T, tree []impl.Segment, trace string, unsafe []string) {
	t.Helper()
	chains, _ := impl.ChainsOf(tree, trace)
	for _, chain := range chains {
		if impl.ChainLies(tree, chain) == slices.Contains(unsafe, chain) {
			t.Fatalf("ChainLies(%v, %q), UnsafeChains = %q", tree, chain, unsafe)
		}
	}
}

// checkWritten checks that what is told of a valid trace is as written out, also by the second reckoning of it.
func checkWritten(t *testing.T, tree []impl.Segment, trace string, want kinding) {
	t.Helper()
	checkKinds(t, tree, trace, want)
	tellKinds(t, tree, trace)
}

// checkNoKinds checks what is returned where a tree is not valid or a text is no trace within it.
func checkNoKinds(t *testing.T, tree []impl.Segment, trace string) {
	t.Helper()
	if counts, ok := impl.KindCounts(tree, trace); len(counts) != 0 || ok {
		t.Errorf("KindCounts(%v, %.100q) = %v, %v", tree, trace, counts, ok)
	}
	if chains, ok := impl.UnsafeChains(tree, trace); len(chains) != 0 || ok {
		t.Errorf("UnsafeChains(%v, %.100q) = %q, %v", tree, trace, chains, ok)
	}
	if lost, ok := impl.LostIn(tree, trace); lost != "" || ok {
		t.Errorf("LostIn(%v, %.100q) = %q, %v", tree, trace, lost, ok)
	}
	if impl.IsSafe(tree, trace) {
		t.Errorf("IsSafe(%v, %.100q)", tree, trace)
	}
}

func checkNoKind(t *testing.T, tree []impl.Segment, caller, called string) {
	t.Helper()
	if kind := impl.KindOf(tree, caller, called); kind != -1 {
		t.Errorf("KindOf(%v, %q, %q) = %d", tree, caller, called, kind)
	}
}

func checkLies(t *testing.T, tree []impl.Segment, chain string, want bool) {
	t.Helper()
	if got := impl.ChainLies(tree, chain); got != want {
		t.Errorf("ChainLies(%v, %.100q) = %v", tree, chain, got)
	}
}

func TestKindsOfTheDocument(t *testing.T) {
	checkWritten(t, mustParse(t, "A1(B1,C1)"), "B(C)", kinding{[3]int{0, 1, 1}, "ABC", "B"})
	checkWritten(t, mustParse(t, "A4(B3,C5(D1,E2))"), "B(D)C", kinding{[3]int{0, 2, 1}, "ABD", "B"})
	checkWritten(t, mustParse(t, "A4(B3(D1),C5,E2)"), "B(D)C", kinding{[3]int{0, 3, 0}, "", ""})
	checkWritten(t, mustParse(t, "A1(B1,C1(D1))"), "BC(D)", kinding{[3]int{0, 3, 0}, "", ""})
}

func TestWordsOfKinds(t *testing.T) {
	for want, kind := range []int{impl.CallUp, impl.CallDown, impl.CallSide} {
		if word := impl.NameOfKind(kind); kind != want || word != []string{"up", "down", "side"}[want] {
			t.Errorf("NameOfKind(%d) = %q", kind, word)
		}
	}
	for _, kind := range []int{-1, 3, -2, 4, 5, -3, 100, 255, 256, -256, 1 << 32, 1<<32 + 1, -1 << 32, math.MaxInt, math.MinInt, math.MinInt + 1} {
		if word := impl.NameOfKind(kind); word != "" {
			t.Errorf("NameOfKind(%d) = %q", kind, word)
		}
	}
}

func TestKindsOfSingleCalls(t *testing.T) {
	tree := mustParse(t, "D4(H3(A1,B1(C9)),E5(F1,G2))")
	for _, c := range []struct {
		caller, called string
		want           int
	}{
		{"D", "D", impl.CallUp}, {"H", "D", impl.CallUp}, {"C", "D", impl.CallUp}, {"C", "H", impl.CallUp}, {"C", "B", impl.CallUp}, {"C", "C", impl.CallUp}, {"B", "B", impl.CallUp},
		{"D", "H", impl.CallDown}, {"D", "C", impl.CallDown}, {"H", "C", impl.CallDown}, {"B", "C", impl.CallDown}, {"H", "A", impl.CallDown}, {"E", "G", impl.CallDown},
		{"H", "E", impl.CallSide}, {"E", "H", impl.CallSide}, {"A", "B", impl.CallSide}, {"B", "A", impl.CallSide}, {"A", "C", impl.CallSide}, {"C", "A", impl.CallSide}, {"C", "G", impl.CallSide}, {"H", "F", impl.CallSide}, {"F", "H", impl.CallSide},
	} {
		if kind := impl.KindOf(tree, c.caller, c.called); kind != c.want {
			t.Errorf("KindOf(%s, %s) = %d, not %d", c.caller, c.called, kind, c.want)
		}
	}
}

func TestKindsWithinAllTrees(t *testing.T) {
	for n := 1; n <= impl.MaxSegments; n++ {
		for _, parents := range preorders(n) {
			for _, tree := range treesOfShape(parents) {
				tellPairKinds(t, tree)
			}
		}
	}
}

// tellPairKinds checks the kinds of the calls between each two segments of a valid tree, and whether these lie together.
func tellPairKinds(t *testing.T, tree []impl.Segment) {
	t.Helper()
	for i, one := range tree {
		for j, other := range tree {
			want := kindIn(tree, i, j)
			if kind := impl.KindOf(tree, one.Name, other.Name); kind != want {
				t.Fatalf("KindOf(%v, %s, %s) = %d, not %d", tree, one.Name, other.Name, kind, want)
			}
			together := impl.LieTogether(tree, one.Name, other.Name)
			if lies := impl.ChainLies(tree, one.Name+other.Name); lies != together || lies != (want != impl.CallSide) {
				t.Fatalf("ChainLies(%v, %s%s) = %v", tree, one.Name, other.Name, lies)
			}
		}
	}
}

// TestCallsUpAndThenDown checks calls that go neither sideways nor lie together, since an ancestor calls another one down.
func TestCallsUpAndThenDown(t *testing.T) {
	tree := mustParse(t, "A4(B3,C5(D1,E2))")
	for trace, want := range map[string]kinding{
		"C(A(B))":          {[3]int{1, 2, 0}, "ACAB", "C"},
		"D(A(B))":          {[3]int{1, 2, 0}, "ADAB", "D"},
		"D(C(E))":          {[3]int{1, 2, 0}, "ADCE", "D"},
		"D(A(E))":          {[3]int{1, 2, 0}, "ADAE", "D"},
		"D(A(C))":          {[3]int{1, 2, 0}, "", ""},
		"D(C(D))":          {[3]int{1, 2, 0}, "", ""},
		"B(A(B))":          {[3]int{1, 2, 0}, "", ""},
		"D(C(A(C(D))))":    {[3]int{2, 3, 0}, "", ""},
		"D(C(A(BE)))":      {[3]int{2, 3, 0}, "ADCAB ADCAE", "CD"},
		"D(C(A(EB)))":      {[3]int{2, 3, 0}, "ADCAB ADCAE", "CD"},
		"D(C(A(C(E))))":    {[3]int{2, 3, 0}, "ADCACE", "D"},
		"E(C(A(C(D))))":    {[3]int{2, 3, 0}, "AECACD", "E"},
		"D(C(E)E)":         {[3]int{1, 2, 1}, "ADCE ADE", "D"},
		"C(A(B(A)))":       {[3]int{2, 2, 0}, "ACAB ACABA", "C"},
		"C(A(B(A(C))))":    {[3]int{2, 3, 0}, "ACAB ACABA ACABAC", "BC"},
		"D(A(B(A(C(E)))))": {[3]int{2, 4, 0}, "ADAB ADABA ADABAC ADABACE", "BD"},
	} {
		checkWritten(t, tree, trace, want)
	}
}

func TestCallsSideways(t *testing.T) {
	tree := mustParse(t, "A4(B3,C5(D1,E2))")
	for trace, want := range map[string]kinding{
		"BC":         {[3]int{0, 2, 0}, "", ""},
		"DE":         {[3]int{0, 2, 0}, "", ""},
		"B(C)":       {[3]int{0, 1, 1}, "ABC", "B"},
		"C(B)":       {[3]int{0, 1, 1}, "ACB", "C"},
		"D(B)":       {[3]int{0, 1, 1}, "ADB", "D"},
		"C(D(B))":    {[3]int{0, 2, 1}, "ACDB", "CD"},
		"C(D(E))":    {[3]int{0, 2, 1}, "ACDE", "D"},
		"B(C(A))":    {[3]int{1, 1, 1}, "ABC ABCA", "B"},
		"B(C(DE))":   {[3]int{0, 3, 1}, "ABC ABCD ABCE", "B"},
		"B(D(E))":    {[3]int{0, 1, 2}, "ABD ABDE", "BD"},
		"D(E(B))":    {[3]int{0, 1, 2}, "ADE ADEB", "DE"},
		"D(C)E(C)":   {[3]int{2, 2, 0}, "", ""},
		"D(C)E(C)DB": {[3]int{2, 4, 0}, "", ""},
	} {
		checkWritten(t, tree, trace, want)
	}
}

func TestSegmentsThatCallThemselvesGoUp(t *testing.T) {
	tree := mustParse(t, "A4(B3,C5(D1,E2))")
	for trace, want := range map[string]kinding{
		"A":           {[3]int{1, 0, 0}, "", ""},
		"AA":          {[3]int{2, 0, 0}, "", ""},
		"A(A)":        {[3]int{2, 0, 0}, "", ""},
		"B(B)":        {[3]int{1, 1, 0}, "", ""},
		"E(E(E))":     {[3]int{2, 1, 0}, "", ""},
		"B(B(B)B)":    {[3]int{3, 1, 0}, "", ""},
		"C(D(C(D)))":  {[3]int{1, 3, 0}, "", ""},
		"A(B)":        {[3]int{1, 1, 0}, "", ""},
		"A(B(C))":     {[3]int{1, 1, 1}, "AABC", "B"},
		"B(B(C))":     {[3]int{1, 1, 1}, "ABBC", "B"},
		"B(C(C))":     {[3]int{1, 1, 1}, "ABC ABCC", "B"},
		"B(C(B))":     {[3]int{0, 1, 2}, "ABC ABCB", "BC"},
		"D(D(B(BD)))": {[3]int{2, 1, 2}, "ADDB ADDBB ADDBD", "BD"},
	} {
		checkWritten(t, tree, trace, want)
	}
	alone := mustParse(t, "H99")
	checkWritten(t, alone, "H(H)H", kinding{[3]int{3, 0, 0}, "", ""})
	checkWritten(t, alone, nested("HHHHHHHH"), kinding{[3]int{8, 0, 0}, "", ""})
}

func TestKindsOfNoCalls(t *testing.T) {
	for _, text := range []string{"A1", "H99", "D4(H3(A1,B1(C9)),E5(F1,G2))", "H99(G99(F99(E99(D99(C99(B99(A99)))))))"} {
		checkWritten(t, mustParse(t, text), "", kinding{})
	}
}

// TestUnsafeTracesThatLoadNothingForReturns checks that a trace is not safe for this alone:
// a caller that is lost may have been called again before there is a return to it.
func TestUnsafeTracesThatLoadNothingForReturns(t *testing.T) {
	tree := mustParse(t, "A4(B3,C5(D1,E2))")
	for trace, want := range map[string]kinding{
		"C(A(BC))":     {[3]int{1, 3, 0}, "ACAB", "C"},
		"D(C(ED))":     {[3]int{1, 3, 0}, "ADCE", "D"},
		"D(A(BD))":     {[3]int{1, 3, 0}, "ADAB", "D"},
		"D(C(A(BED)))": {[3]int{2, 4, 0}, "ADCAB ADCAE", "CD"},
	} {
		checkWritten(t, tree, trace, want)
		if returns, ok := impl.ReturnLoads(tree, trace); returns != "" || !ok {
			t.Errorf("ReturnLoads(%q) = %q, %v", trace, returns, ok)
		}
	}
}

// TestOrdersOfUnsafeChains checks that chains are told once and in the order of the alphabet, and segments in that of the tree.
func TestOrdersOfUnsafeChains(t *testing.T) {
	flat := mustParse(t, "H1(C1,G1,B1,A1)")
	checkWritten(t, flat, "G(BA)C(A)GB(A)G(B)", kinding{[3]int{0, 5, 5}, "HBA HCA HGA HGB", "CGB"})
	checkWritten(t, flat, "A(BGC)B(CC)", kinding{[3]int{0, 2, 5}, "HAB HAC HAG HBC", "BA"})
	checkWritten(t, mustParse(t, "A1(B1,C1,D1)"), "B(CD(C))B(C(D))", kinding{[3]int{0, 2, 5}, "ABC ABCD ABD ABDC", "BCD"})
	checkWritten(t, mustParse(t, "C4(A3,B5(E1,D2))"), "E(D)D(E)A(B)B(AE)", kinding{[3]int{0, 5, 4}, "CAB CBA CDE CED", "ABED"})
}

func TestKindsOfAllShortTraces(t *testing.T) {
	for n := 1; n <= 4; n++ {
		for _, parents := range preorders(n) {
			for _, tree := range treesOfShape(parents) {
				names, _ := impl.NamesOf(tree)
				for _, trace := range tracesOver(names, 5) {
					tellKinds(t, tree, trace)
				}
			}
		}
	}
	for _, parents := range preorders(impl.MaxSegments) {
		for _, tree := range treesOfShape(parents) {
			tellKinds(t, tree, "A(BC(DE)F(G(H)))BH(G(F)E)DC")
			tellKinds(t, tree, nested("HGFEDCBA")+nested("AACCAACC")+"EDG")
		}
	}
}

// TestKindsOfDeeperTraces checks traces of all calls of up to three within each other in which three segments take part.
func TestKindsOfDeeperTraces(t *testing.T) {
	for _, text := range []string{"B1(A1,C1)", "B1(C1(A1))"} {
		tree := mustParse(t, text)
		for _, trace := range tracesOver("ABC", 7) {
			tellKinds(t, tree, trace)
		}
	}
	tree := mustParse(t, "A4(B3,C5(D1,E2))")
	for _, names := range textsOver("ABCDE", 5)[1:] {
		tellKinds(t, tree, nested(names))
	}
}

func TestChainsThatLie(t *testing.T) {
	for _, text := range []string{"A4(B3,C5(D1,E2))", "E1(D1(C1(B1(A1))))", "C1(E1,D1,B1,A1)", "D2(B3(A5(E1)),C4)", "A1", "F7"} {
		tree := mustParse(t, text)
		for _, chain := range textsOver("ABCDEF", 4) {
			checkLies(t, tree, chain, liesIn(tree, chain))
		}
	}
	tree := mustParse(t, "A4(B3,C5(D1,E2))")
	for chain, want := range map[string]bool{
		"": true, "A": true, "E": true, "AA": true, "EE": true, "AB": true, "BA": true, "ACE": true, "ECA": true, "EA": true, "CCEEAA": true, "ECAECAECAECAE": true,
		"BC": false, "CB": false, "ABC": false, "DE": false, "ED": false, "ACDE": false, "BD": false, "DAB": false, "CAB": false, "EEEEEEEEB": false, "BEEEEEEEE": false, "ABCDE": false,
	} {
		checkLies(t, tree, chain, want)
	}
	all := "HGFEDCBA"
	checkLies(t, mustParse(t, "H99(G99(F99(E99(D99(C99(B99(A99)))))))"), all, true)
	checkLies(t, mustParse(t, "H9(G9(F9(E9(D9(C9(B9,A9))))))"), all, false)
	checkLies(t, mustParse(t, "H9(G9(F9(E9(D9(C9(B9,A9))))))"), "HGFEDCA", true)
}

func TestChainsOfNoSegment(t *testing.T) {
	tree := mustParse(t, "A4(B3,C5(D1,E2))")
	for _, chain := range []string{
		"F", "H", "I", "@", "a", "AF", "FA", "AFC", "FF", "ACEF", "BCF", "FBC", " ", "A ", " A", "A C", "A,C", "A-C", "AC\n", "\n", "\x00", "A\x00", "\xff", "A\xff", "\xffA", "é", "Ａ", "Aé", "A4", "4", "C(D)", "(", ")", "()", "-",
	} {
		checkLies(t, tree, chain, false)
	}
	for i := range impl.MaxSegments {
		name := "ABCDEFGH"[i : i+1]
		alone := []impl.Segment{{Name: name, Size: 1, Parent: -1}}
		for _, other := range []string{"A", "B", "C", "D", "E", "F", "G", "H"} {
			checkLies(t, alone, other, other == name)
			checkLies(t, alone, name+other, other == name)
			if other != name {
				checkNoKind(t, alone, name, other)
				checkNoKind(t, alone, other, name)
				checkNoKind(t, alone, other, other)
			}
		}
	}
}

// TestLongChains checks texts that are longer than any chain of a trace.
func TestLongChains(t *testing.T) {
	tree := mustParse(t, "A4(B3,C5(D1,E2))")
	long := strings.Repeat("ACE", 300000)
	for _, c := range []struct {
		chain string
		want  bool
	}{
		{strings.Repeat("A", 81), true}, {strings.Repeat("E", 1000000), true}, {long, true}, {long + "B", false}, {"B" + long, false}, {long + "D", false}, {long + "F", false}, {"F" + long, false},
		{long + "\x00", false}, {long + "a" + long, false}, {long + "D" + long, false}, {strings.Repeat("(", 1000000), false}, {strings.Repeat("BC", 500000), false},
	} {
		checkLies(t, tree, c.chain, c.want)
	}
}

func TestKindsOfNoSegment(t *testing.T) {
	tree := mustParse(t, "A4(B3,C5(D1,E2))")
	for _, name := range []string{"", "F", "H", "I", "@", "a", "AB", "ACE", "A4", "(", " ", " A", "A ", "\xff", "\x00", "é", strings.Repeat("A", 1000000)} {
		for _, other := range []string{"A", "B", "E", "", "F", "AB"} {
			checkNoKind(t, tree, name, other)
			checkNoKind(t, tree, other, name)
		}
		checkNoKind(t, tree, name, name)
	}
}

func TestKindsOfLongestTraces(t *testing.T) {
	tree := mustParse(t, "A4(B3,C5(D1,E2))")
	for trace, want := range map[string]kinding{
		strings.Repeat("B", 80):                 {[3]int{0, 80, 0}, "", ""},
		strings.Repeat("A", 80):                 {[3]int{80, 0, 0}, "", ""},
		strings.Repeat("BC", 40):                {[3]int{0, 80, 0}, "", ""},
		strings.Repeat("B(C)", 20):              {[3]int{0, 20, 20}, "ABC", "B"},
		strings.Repeat("C(D)", 20):              {[3]int{0, 40, 0}, "", ""},
		strings.Repeat("B(C(D))E", 10):          {[3]int{0, 30, 10}, "ABC ABCD", "B"},
		"B(" + strings.Repeat("C", 77) + ")":    {[3]int{0, 1, 77}, "ABC", "B"},
		"B(" + strings.Repeat("A", 76) + "C)":   {[3]int{76, 1, 1}, "ABC", "B"},
		strings.Repeat("E", 76) + "B(C)":        {[3]int{0, 77, 1}, "ABC", "B"},
		strings.Repeat("E", 73) + "C(A(B))":     {[3]int{1, 75, 0}, "ACAB", "C"},
		"C(A(B))" + strings.Repeat("E", 73):     {[3]int{1, 75, 0}, "ACAB", "C"},
		"E(C(" + strings.Repeat("A", 74) + "))": {[3]int{75, 1, 0}, "", ""},
	} {
		if len(trace) != impl.MaxTrace {
			t.Fatalf("%q has %d bytes", trace, len(trace))
		}
		checkWritten(t, tree, trace, want)
	}
	for _, trace := range []string{
		strings.Repeat("B", 81), strings.Repeat("B(D)", 20) + "E", "E" + strings.Repeat("B(D)", 20), "B(" + strings.Repeat("D", 78) + ")", strings.Repeat("B", 160),
		strings.Repeat("B", 1000000), strings.Repeat("B(", 1000000), strings.Repeat("(", 1000000), strings.Repeat(" ", 81), strings.Repeat("B", 80) + "\x00",
	} {
		checkNoKinds(t, tree, trace)
	}
}

func TestKindsOfDeepestTraces(t *testing.T) {
	tree := mustParse(t, "A4(B3,C5(D1,E2))")
	checkWritten(t, tree, nested("BBBBBBBB"), kinding{[3]int{7, 1, 0}, "", ""})
	checkWritten(t, tree, nested("ECACECAC"), kinding{[3]int{4, 4, 0}, "", ""})
	checkWritten(t, tree, nested("ECACECAB"), kinding{[3]int{4, 4, 0}, "AECACECAB", "CE"})
	checkWritten(t, tree, nested("BCBCBCBC"), kinding{[3]int{0, 1, 7}, "ABC ABCB ABCBC ABCBCB ABCBCBC ABCBCBCB ABCBCBCBC", "BC"})
	chain := mustParse(t, "H99(G99(F99(E99(D99(C99(B99(A99)))))))")
	checkWritten(t, chain, nested("HGFEDCBA"), kinding{[3]int{1, 7, 0}, "", ""})
	checkWritten(t, chain, nested("ABCDEFGH"), kinding{[3]int{7, 1, 0}, "", ""})
	flat := mustParse(t, "H99(G99,F99,E99,D99,C99,B99,A99)")
	checkWritten(t, flat, nested("AHGFEDCB"), kinding{[3]int{1, 2, 5}, "HAHG HAHGF HAHGFE HAHGFED HAHGFEDC HAHGFEDCB", "GFEDCA"})
	checkWritten(t, flat, nested("GFEDCBAG"), kinding{[3]int{0, 1, 7}, "HGF HGFE HGFED HGFEDC HGFEDCB HGFEDCBA HGFEDCBAG", "GFEDCBA"})
	for _, trace := range []string{nested("BDBDBDBD") + nested("BBBBBBBB") + "E", "B(C(D(E(B(C(D(BCDE)))))))", "E" + nested("DCBAEDCB"), nested("BCDEBCDE") + nested("ECACECAC") + nested("BBBBBBBB") + "B(C)ADEE"} {
		tellKinds(t, tree, trace)
	}
	for _, trace := range []string{nested("BBBBBBBBB"), nested("BCBCBCBCB"), nested("ECACECACE"), "C" + nested("BBBBBBBBB"), nested("BBBBBBBB") + nested("BCDEABCDE"), nested(strings.Repeat("B", 27)), nested(strings.Repeat("B", 1000))} {
		checkNoKinds(t, tree, trace)
	}
}

// TestTextsOfKinds checks all texts of up to so many of some bytes: those that are built as calls have kinds, and no others.
func TestTextsOfKinds(t *testing.T) {
	for _, c := range []struct {
		text, letters, bytes string
		n                    int
	}{{"B1(A1)", "BA", "AB()C", 5}, {"G7", "G", "G()", 9}} {
		tree := mustParse(t, c.text)
		valid := tracesOver(c.letters, c.n)
		for _, trace := range textsOver(c.bytes, c.n) {
			if slices.Contains(valid, trace) {
				tellKinds(t, tree, trace)
			} else {
				checkNoKinds(t, tree, trace)
			}
		}
	}
}

func TestKindsOfTextsOfNoTrace(t *testing.T) {
	tree := mustParse(t, "A4(B3,C5(D1,E2))")
	for _, trace := range textsOfNoTrace() {
		checkNoKinds(t, tree, trace)
	}
}

func TestKindsWithinInvalidTrees(t *testing.T) {
	for _, tree := range invalidTrees() {
		for _, text := range []string{"", "A", "B", "AA", "BA", "B(A)C", "I", "()"} {
			checkNoKinds(t, tree, text)
			checkLies(t, tree, text, false)
		}
		for _, caller := range []string{"A", "B", "C", "I", ""} {
			for _, called := range []string{"A", "B", "C", "I", ""} {
				checkNoKind(t, tree, caller, called)
			}
		}
	}
}

func TestKindsChangeNoTree(t *testing.T) {
	row := mustParse(t, "A4(B3,C5(D1,E2),F1)")
	kept := slices.Clone(row)
	tellKinds(t, row[:5], "B(D)C(B(E)E)")
	tellPairKinds(t, row[:5])
	if !slices.Equal(row, kept) {
		t.Errorf("a function changed its argument to %v", row)
	}
}

func TestKindsShareNothing(t *testing.T) {
	tree := mustParse(t, "A4(B3,C5(D1,E2))")
	trace := "B(D)C(B(E)E)B(D)"
	want := kindingOf(tree, trace)
	keptCounts, _ := impl.KindCounts(tree, trace)
	keptChains, _ := impl.UnsafeChains(tree, trace)
	counts, _ := impl.KindCounts(tree, trace)
	chains, _ := impl.UnsafeChains(tree, trace)
	clear(counts[:cap(counts)])
	clear(chains[:cap(chains)])
	if !slices.Equal(keptCounts, want.counts[:]) || strings.Join(keptChains, " ") != want.unsafe {
		t.Errorf("a change of one result changes another one: %v, %q", keptCounts, keptChains)
	}
	checkKinds(t, tree, trace, want)
	if word := impl.NameOfKind(impl.CallDown); word != "down" {
		t.Errorf("NameOfKind = %q", word)
	}
}
