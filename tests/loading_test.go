package tests

import (
	"slices"
	"strings"
	"testing"

	"loop.example/segmentrooms/impl"
)

// A meeting is what becomes of a need.
type meeting struct{ state, load, drops string }

// meetingOf returns what becomes of a need for the segment at an index:
// a state and the path begin alike, and from where they differ the one is lost and the other one loaded.
func meetingOf(tree []impl.Segment, loaded string, index int) meeting {
	path := pathIn(tree, index)
	alike := 0
	for alike < min(len(loaded), len(path)) && loaded[alike] == path[alike] {
		alike++
	}
	if alike == len(path) {
		return meeting{state: loaded}
	}
	return meeting{state: path, load: path[alike:], drops: loaded[alike:]}
}

// statesIn returns the texts of all states.
func statesIn(tree []impl.Segment) []string {
	states := []string{""}
	for i := range tree {
		states = append(states, pathIn(tree, i))
	}
	return states
}

// costIn returns the sizes of segments, each as often as its name stands in a text of names.
func costIn(tree []impl.Segment, names string) int {
	cost := 0
	for _, s := range tree {
		cost += s.Size * strings.Count(names, s.Name)
	}
	return cost
}

// cheapestIn returns the first of those segments that are not loaded whose need costs least.
func cheapestIn(tree []impl.Segment, loaded string) string {
	for cost := 1; cost <= impl.MaxSegments*impl.MaxSize; cost++ {
		for i, s := range tree {
			if costIn(tree, meetingOf(tree, loaded, i).load) == cost {
				return s.Name
			}
		}
	}
	return ""
}

// textsOver returns all texts of up to n of these bytes.
func textsOver(letters string, n int) []string {
	texts := []string{""}
	for begin := 0; n > 0; n-- {
		end := len(texts)
		for _, text := range texts[begin:end] {
			for i := range len(letters) {
				texts = append(texts, text+letters[i:i+1])
			}
		}
		begin = end
	}
	return texts
}

// tellLoading checks all that is told of the states of a valid tree and of needs in them.
func tellLoading(t *testing.T, tree []impl.Segment) {
	t.Helper()
	states := statesIn(tree)
	if got, ok := impl.StatesOf(tree); !slices.Equal(got, states) || !ok {
		t.Fatalf("StatesOf(%v) = %q, %v", tree, got, ok)
	}
	for _, loaded := range states {
		if !impl.StateValid(tree, loaded) {
			t.Fatalf("StateValid(%v, %q)", tree, loaded)
		}
		cheapest := cheapestIn(tree, loaded)
		if name, ok := impl.CheapestNeed(tree, loaded); name != cheapest || ok != (cheapest != "") {
			t.Fatalf("CheapestNeed(%v, %q) = %q, %v, not %q", tree, loaded, name, ok, cheapest)
		}
		for i, s := range tree {
			tellNeed(t, tree, loaded, s.Name, meetingOf(tree, loaded, i))
		}
	}
}

func tellNeed(t *testing.T, tree []impl.Segment, loaded, name string, want meeting) {
	t.Helper()
	state, load, one := impl.NeedOf(tree, loaded, name)
	drops, two := impl.DropsOf(tree, loaded, name)
	if got := (meeting{state, load, drops}); got != want || !one || !two {
		t.Fatalf("NeedOf, DropsOf(%v, %q, %s) = %q, %v, %v, not %q", tree, loaded, name, got, one, two, want)
	}
	if cost := impl.LoadCost(tree, loaded, name); cost != costIn(tree, want.load) {
		t.Fatalf("LoadCost(%v, %q, %s) = %d", tree, loaded, name, cost)
	}
	tellNeeds(t, tree, loaded, name, want.state, want.load)
}

func tellNeeds(t *testing.T, tree []impl.Segment, loaded, needs, state, load string) {
	t.Helper()
	if gotState, gotLoad, ok := impl.NeedAll(tree, loaded, needs); gotState != state || gotLoad != load || !ok {
		t.Fatalf("NeedAll(%v, %q, %q) = %q, %q, %v, not %q, %q", tree, loaded, needs, gotState, gotLoad, ok, state, load)
	}
}

func TestLoadingOfTheDocument(t *testing.T) {
	tree := mustParse(t, "A4(B3,C5(D1,E2))")
	tellNeed(t, tree, "ACD", "B", meeting{state: "AB", load: "B", drops: "CD"})
	if states, ok := impl.StatesOf(tree); !slices.Equal(states, []string{"", "A", "AB", "AC", "ACD", "ACE"}) || !ok {
		t.Errorf("StatesOf = %q, %v", states, ok)
	}
}

func TestNeedsForWhatIsLoaded(t *testing.T) {
	tree := mustParse(t, "D4(H3(A1,B1(C9)),E5(F1,G2))")
	for _, loaded := range []string{"D", "DH", "DHA", "DHB", "DHBC", "DE", "DEF", "DEG"} {
		for i := range len(loaded) {
			tellNeed(t, tree, loaded, loaded[i:i+1], meeting{state: loaded})
			if cost := impl.LoadCost(tree, loaded, loaded[i:i+1]); cost != 0 {
				t.Errorf("LoadCost(%q, %q) = %d", loaded, loaded[i:i+1], cost)
			}
		}
		tellNeeds(t, tree, loaded, strings.Repeat(loaded, impl.MaxNeeds/len(loaded)), loaded, "")
	}
}

func TestNeedsForWhatIsNotLoaded(t *testing.T) {
	tree := mustParse(t, "D4(H3(A1,B1(C9)),E5(F1,G2))")
	for _, c := range []struct {
		loaded, name string
		want         meeting
		cost         int
	}{
		{"", "D", meeting{"D", "D", ""}, 4}, {"", "C", meeting{"DHBC", "DHBC", ""}, 17}, {"D", "C", meeting{"DHBC", "HBC", ""}, 13},
		{"DH", "B", meeting{"DHB", "B", ""}, 1}, {"DH", "C", meeting{"DHBC", "BC", ""}, 10}, {"DHA", "B", meeting{"DHB", "B", "A"}, 1},
		{"DHBC", "A", meeting{"DHA", "A", "BC"}, 1}, {"DHBC", "E", meeting{"DE", "E", "HBC"}, 5}, {"DHBC", "G", meeting{"DEG", "EG", "HBC"}, 7},
		{"DEF", "G", meeting{"DEG", "G", "F"}, 2}, {"DEF", "H", meeting{"DH", "H", "EF"}, 3}, {"DE", "C", meeting{"DHBC", "HBC", "E"}, 13},
	} {
		tellNeed(t, tree, c.loaded, c.name, c.want)
		if cost := impl.LoadCost(tree, c.loaded, c.name); cost != c.cost {
			t.Errorf("LoadCost(%q, %q) = %d", c.loaded, c.name, cost)
		}
	}
}

func TestLoadingOfAllTrees(t *testing.T) {
	for n := 1; n <= impl.MaxSegments; n++ {
		for _, parents := range preorders(n) {
			for _, tree := range treesOfShape(parents) {
				tellLoading(t, tree)
			}
		}
	}
}

// TestTextsOfStates checks all texts of up to five of the names of a tree and one other: only its paths are states.
func TestTextsOfStates(t *testing.T) {
	for _, text := range []string{"A4(B3,C5(D1,E2))", "E4(C3(A5),B1(D2))", "C4(B3(A5(E1(D2))))", "B1(A1,C1,D1,E1)"} {
		tree := mustParse(t, text)
		states := statesIn(tree)
		for _, loaded := range textsOver("ABCDEF", 5) {
			if valid := impl.StateValid(tree, loaded); valid != slices.Contains(states, loaded) {
				t.Errorf("%s: StateValid(%q) = %v", text, loaded, valid)
			}
		}
	}
}

func TestTextsOfNoState(t *testing.T) {
	tree := mustParse(t, "A4(B3,C5(D1,E2))")
	for _, loaded := range []string{
		"B", "C", "E", "CD", "AD", "BA", "CA", "DCA", "ADC", "ABC", "ACB", "ACDE", "ACED", "ABCDE", "AA", "AAC", "ACC", "ACEE", "F", "H", "AF", "ACF", "ACEF",
		" ", "-", "a", "ac", "A ", " A", "A,C", "A\x00", "\x00", "\xff", "AC\xff", "é", "A4", "AI", strings.Repeat("A", 100000), strings.Repeat("ACE", 100000),
	} {
		checkNoState(t, tree, loaded)
		for _, name := range []string{"A", "B", "E", "F", ""} {
			checkNoNeed(t, tree, loaded, name)
		}
	}
}

// checkNoState checks what is returned where a tree is not valid or a text is no state of it.
func checkNoState(t *testing.T, tree []impl.Segment, loaded string) {
	t.Helper()
	if impl.StateValid(tree, loaded) {
		t.Errorf("StateValid(%v, %.40q)", tree, loaded)
	}
	if name, ok := impl.CheapestNeed(tree, loaded); name != "" || ok {
		t.Errorf("CheapestNeed(%v, %.40q) = %q, %v", tree, loaded, name, ok)
	}
	checkNoNeeds(t, tree, loaded, "")
	checkNoNeeds(t, tree, loaded, "ABA")
}

// checkNoNeed checks what is returned where also a name may be that of no segment.
func checkNoNeed(t *testing.T, tree []impl.Segment, loaded, name string) {
	t.Helper()
	if state, load, ok := impl.NeedOf(tree, loaded, name); state != "" || load != "" || ok {
		t.Errorf("NeedOf(%v, %.40q, %q) = %q, %q, %v", tree, loaded, name, state, load, ok)
	}
	if drops, ok := impl.DropsOf(tree, loaded, name); drops != "" || ok {
		t.Errorf("DropsOf(%v, %.40q, %q) = %q, %v", tree, loaded, name, drops, ok)
	}
	if cost := impl.LoadCost(tree, loaded, name); cost != -1 {
		t.Errorf("LoadCost(%v, %.40q, %q) = %d", tree, loaded, name, cost)
	}
}

// checkNoNeeds checks what is returned where also a text may not name segments, or too many.
func checkNoNeeds(t *testing.T, tree []impl.Segment, loaded, needs string) {
	t.Helper()
	if state, load, ok := impl.NeedAll(tree, loaded, needs); state != "" || load != "" || ok {
		t.Errorf("NeedAll(%v, %.40q, %.80q) = %q, %q, %v", tree, loaded, needs, state, load, ok)
	}
}

// TestNeedsForNone checks that a text of no needs changes nothing, while an empty name is that of no segment.
func TestNeedsForNone(t *testing.T) {
	tree := mustParse(t, "A4(B3,C5(D1,E2))")
	for _, loaded := range statesIn(tree) {
		tellNeeds(t, tree, loaded, "", loaded, "")
		checkNoNeed(t, tree, loaded, "")
	}
}

func TestNeedsForNoSegment(t *testing.T) {
	tree := mustParse(t, "A4(B3,C5(D1,E2))")
	for _, name := range []string{"F", "H", "I", "a", "AB", "AC", "ACE", "AA", "A4", " A", "A ", "\xff", "\x00", "é"} {
		for _, loaded := range []string{"", "A", "ACE"} {
			checkNoNeed(t, tree, loaded, name)
		}
	}
	for _, other := range []string{"F", "H", "I", "a", " ", ",", "4", "\xff", "\x00", "é"} {
		for _, needs := range []string{other, other + "ACE", "A" + other + "CE", "ACE" + other} {
			for _, loaded := range []string{"", "A", "ACE"} {
				checkNoNeeds(t, tree, loaded, needs)
			}
			if cost := impl.CostOf(tree, needs); cost != -1 {
				t.Errorf("CostOf(%q) = %d", needs, cost)
			}
		}
	}
}

// TestNeedsOneAfterTheOther checks all texts of up to four needs from all states of all trees of up to four segments.
func TestNeedsOneAfterTheOther(t *testing.T) {
	for n := 1; n <= 4; n++ {
		for _, parents := range preorders(n) {
			tree := treeWithParents(parents...)
			for _, loaded := range statesIn(tree) {
				for _, needs := range textsOver("ABCD"[:n], 4) {
					state, load := loaded, ""
					for i := range len(needs) {
						next := meetingOf(tree, state, int(needs[i]-'A'))
						state, load = next.state, load+next.load
					}
					tellNeeds(t, tree, loaded, needs, state, load)
				}
			}
		}
	}
}

func TestSixtyNeeds(t *testing.T) {
	tree := mustParse(t, "A4(B3,C5(D1,E2))")
	tellNeeds(t, tree, "", strings.Repeat("BD", 30), "ACD", "A"+strings.Repeat("BCD", 30))
	tellNeeds(t, tree, "ACD", strings.Repeat("BD", 30), "ACD", strings.Repeat("BCD", 30))
	tellNeeds(t, tree, "", strings.Repeat("A", 60), "A", "A")
	tellNeeds(t, tree, "ACE", strings.Repeat("A", 60), "ACE", "")
	tellNeeds(t, tree, "A", strings.Repeat("D", 59)+"E", "ACE", "CDE")
	tellNeeds(t, tree, "A", strings.Repeat("D", 58)+"E", "ACE", "CDE")
	for _, needs := range []string{
		strings.Repeat("A", 61), strings.Repeat("BD", 31), strings.Repeat("D", 60) + "E", strings.Repeat("A", 64), strings.Repeat("A", 1000000),
		strings.Repeat("A", 59) + "F", strings.Repeat("A", 60) + "F",
	} {
		for _, loaded := range []string{"", "A", "ACE"} {
			checkNoNeeds(t, tree, loaded, needs)
		}
	}
	chain := mustParse(t, "H99(G99(F99(E99(D99(C99(B99(A99)))))))")
	tellNeeds(t, chain, "", strings.Repeat("ABCDEF", 10), "HGFEDCBA", "HGFEDCBA")
}

func TestCosts(t *testing.T) {
	tree := mustParse(t, "A4(B3,C5(D1,E2))")
	for names, want := range map[string]int{"": 0, "A": 4, "B": 3, "E": 2, "ABBA": 14, "EDCBA": 15, "DDDDD": 5, strings.Repeat("C", 61): 305, strings.Repeat("ACE", 100000): 1100000} {
		if cost := impl.CostOf(tree, names); cost != want {
			t.Errorf("CostOf(%.40q) = %d, not %d", names, cost, want)
		}
	}
	if cost := impl.CostOf(tree, strings.Repeat("A", 100000)+"F"); cost != -1 {
		t.Errorf("CostOf of a long text that ends with no segment = %d", cost)
	}
	chain := mustParse(t, "H99(G99(F99(E99(D99(C99(B99(A99)))))))")
	if cost := impl.LoadCost(chain, "", "A"); cost != impl.MaxSegments*impl.MaxSize {
		t.Errorf("LoadCost of the largest path = %d", cost)
	}
	for _, names := range textsOver("ABCDE", 5) {
		if cost := impl.CostOf(tree, names); cost != costIn(tree, names) {
			t.Errorf("CostOf(%q) = %d", names, cost)
		}
	}
}

func TestCheapestNeedIsTheFirst(t *testing.T) {
	for _, c := range []struct{ text, loaded, want string }{
		{"A9(B1)", "", "A"},
		{"A1(B2,C2,D2)", "A", "B"}, {"A1(B2,C2,D2)", "AB", "C"}, {"A1(B2,C2,D2)", "AC", "B"}, {"A1(B2,C2,D2)", "AD", "B"},
		{"A1(D2,C2,B2)", "A", "D"}, {"A1(D2,C2,B2)", "AD", "C"},
		{"A1(B3,C2,D2)", "A", "C"}, {"A1(B3,C2,D2)", "AC", "D"},
		{"A1(B3(C1),D5(E4,F4))", "ADE", "B"}, {"A1(B3(C1),D5(E4,F2))", "ADE", "F"}, {"A1(B3(C1),D5(E4,F3))", "ADE", "B"}, {"A1(B3(C1),D5(E4,F3))", "AB", "C"},
		{"A1(B5(C1),D6)", "AD", "B"}, {"A1(B5(C1),D6)", "AB", "C"}, {"A1(B5(C1),D6)", "ABC", "D"},
	} {
		if name, ok := impl.CheapestNeed(mustParse(t, c.text), c.loaded); name != c.want || !ok {
			t.Errorf("CheapestNeed(%s, %q) = %q, %v", c.text, c.loaded, name, ok)
		}
	}
	for text, loaded := range map[string]string{"A1": "A", "A2(B2)": "AB", "H99(G99(F99(E99(D99(C99(B99(A99)))))))": "HGFEDCBA"} {
		if name, ok := impl.CheapestNeed(mustParse(t, text), loaded); name != "" || ok {
			t.Errorf("CheapestNeed(%s, %q) = %q, %v", text, loaded, name, ok)
		}
	}
}

func TestLoadingOfInvalidTrees(t *testing.T) {
	for _, tree := range invalidTrees() {
		if states, ok := impl.StatesOf(tree); len(states) != 0 || ok {
			t.Errorf("StatesOf(%v) = %q, %v", tree, states, ok)
		}
		for _, loaded := range []string{"", "A", "B", "BA", "BAC", "I"} {
			checkNoState(t, tree, loaded)
			for _, name := range []string{"A", "B", "C", "I", ""} {
				checkNoNeed(t, tree, loaded, name)
				checkNoNeeds(t, tree, loaded, name)
			}
		}
		for _, names := range []string{"", "A", "B", "BAC", "I"} {
			if cost := impl.CostOf(tree, names); cost != -1 {
				t.Errorf("CostOf(%v, %q) = %d", tree, names, cost)
			}
		}
	}
}

func TestLoadingChangesNoTree(t *testing.T) {
	row := mustParse(t, "A4(B3,C5(D1,E2),F1)")
	kept := slices.Clone(row)
	tellLoading(t, row[:5])
	if !slices.Equal(row, kept) {
		t.Errorf("a function changed its argument to %v", row)
	}
	one, _ := impl.StatesOf(row[:5])
	two, _ := impl.StatesOf(row[:5])
	one = append(one, "H")
	clear(one)
	if want := statesIn(row[:5]); !slices.Equal(two, want) {
		t.Errorf("a change of one list of states changes another one: %q", two)
	}
}
