package tests

import (
	"math"
	"slices"
	"strconv"
	"strings"
	"testing"

	"loop.example/segmentrooms/impl"
)

// An ordering is what is told of the outermost calls of a trace, of which there are at most five. Orders are digits.
type ordering struct {
	top                 string
	best, worst, sorted string
	least, most         int
}

// ordersOver returns all orders of so many calls, in order: each index is put in at all places, and then they are sorted.
func ordersOver(n int) []string {
	orders := []string{""}
	for i := range n {
		var longer []string
		for _, order := range orders {
			for at := 0; at <= len(order); at++ {
				longer = append(longer, order[:at]+strconv.Itoa(i)+order[at:])
			}
		}
		orders = longer
	}
	slices.Sort(orders)
	return orders
}

// indicesIn returns the indices of which the digits are an order.
func indicesIn(order string) []int {
	var indices []int
	for _, digit := range order {
		indices = append(indices, int(digit-'0'))
	}
	return indices
}

// topIn returns the outermost calls of a valid trace, read byte by byte: one begins at each name that stands in no parentheses.
func topIn(trace string) []string {
	var top []string
	open := 0
	for i := range len(trace) {
		switch trace[i] {
		case '(':
			open++
		case ')':
			open--
		default:
			if open == 0 {
				top = append(top, "")
			}
		}
		top[len(top)-1] += trace[i : i+1]
	}
	return top
}

// madeIn returns the trace of calls that are made in an order.
func madeIn(top []string, order []int) string {
	trace := ""
	for _, i := range order {
		trace += top[i]
	}
	return trace
}

// sortedIn returns the order in which calls are sorted: for each segment of the tree, those calls of it one after the other.
func sortedIn(tree []impl.Segment, top []string) []int {
	var order []int
	for _, s := range tree {
		for i, call := range top {
			if call[:1] == s.Name {
				order = append(order, i)
			}
		}
	}
	return order
}

// digitsFor returns the digits of an order of at most ten calls.
func digitsFor(order []int) string {
	digits := ""
	for _, i := range order {
		digits += strconv.Itoa(i)
	}
	return digits
}

// orderingOf returns what is told of the outermost calls of a valid trace.
func orderingOf(tree []impl.Segment, trace string) ordering {
	top := topIn(trace)
	want := ordering{top: strings.Join(top, " "), sorted: digitsFor(sortedIn(tree, top)), least: math.MaxInt, most: math.MinInt}
	for _, order := range ordersOver(len(top)) {
		cost := runningOf(tree, madeIn(top, indicesIn(order))).cost
		if cost < want.least {
			want.least, want.best = cost, order
		}
		if cost > want.most {
			want.most, want.worst = cost, order
		}
	}
	return want
}

// tellOrders checks all that is told of the outermost calls of a valid trace, and that no order costs less than the best one.
func tellOrders(t *testing.T, tree []impl.Segment, trace string) {
	t.Helper()
	want := orderingOf(tree, trace)
	checkOrdering(t, tree, trace, want)
	tellTop(t, tree, trace)
	top := topIn(trace)
	for _, order := range ordersOver(len(top)) {
		checkInOrder(t, tree, trace, indicesIn(order), madeIn(top, indicesIn(order)))
		made, _ := impl.InOrder(tree, trace, indicesIn(order))
		cost := impl.RunCost(tree, made)
		if cost < want.least || cost > want.most || cost == want.least && order < want.best || cost == want.most && order < want.worst {
			t.Fatalf("%v: %q costs %d in the order %s, not between %v", tree, trace, cost, order, want)
		}
	}
}

// checkOrdering checks what is told of the outermost calls of a trace, of which there are at most five.
func checkOrdering(t *testing.T, tree []impl.Segment, trace string, want ordering) {
	t.Helper()
	if top, ok := impl.TopCalls(tree, trace); strings.Join(top, " ") != want.top || !ok {
		t.Fatalf("TopCalls(%v, %q) = %q, %v, not %s", tree, trace, top, ok, want.top)
	}
	if best, ok := impl.BestOrder(tree, trace); !slices.Equal(best, indicesIn(want.best)) || !ok {
		t.Fatalf("BestOrder(%v, %q) = %v, %v, not %s", tree, trace, best, ok, want.best)
	}
	if worst, ok := impl.WorstOrder(tree, trace); !slices.Equal(worst, indicesIn(want.worst)) || !ok {
		t.Fatalf("WorstOrder(%v, %q) = %v, %v, not %s", tree, trace, worst, ok, want.worst)
	}
	if least, most, ok := impl.OrderCosts(tree, trace); least != want.least || most != want.most || !ok {
		t.Fatalf("OrderCosts(%v, %q) = %d, %d, %v, not %d, %d", tree, trace, least, most, ok, want.least, want.most)
	}
	if sorted, ok := impl.SortedOrder(tree, trace); !slices.Equal(sorted, indicesIn(want.sorted)) || !ok {
		t.Fatalf("SortedOrder(%v, %q) = %v, %v, not %s", tree, trace, sorted, ok, want.sorted)
	}
}

// checkInOrder checks the trace in which the outermost calls of another one are made in an order.
func checkInOrder(t *testing.T, tree []impl.Segment, trace string, order []int, want string) {
	t.Helper()
	if made, ok := impl.InOrder(tree, trace, order); made != want || !ok || !impl.TraceValid(tree, made) {
		t.Fatalf("InOrder(%v, %q, %v) = %q, %v, not %q", tree, trace, order, made, ok, want)
	}
}

// tellTop checks what is told of the outermost calls of a valid trace, however many they are.
func tellTop(t *testing.T, tree []impl.Segment, trace string) {
	t.Helper()
	want := topIn(trace)
	top, ok := impl.TopCalls(tree, trace)
	if !slices.Equal(top, want) || !ok || strings.Join(top, "") != trace {
		t.Fatalf("TopCalls(%v, %q) = %q, %v, not %q", tree, trace, top, ok, want)
	}
	for _, call := range top {
		if again, ok := impl.TopCalls(tree, call); !slices.Equal(again, []string{call}) || !ok {
			t.Fatalf("TopCalls(%v, %q) = %q, %v", tree, call, again, ok)
		}
	}
	sorted, ok := impl.SortedOrder(tree, trace)
	if !slices.Equal(sorted, sortedIn(tree, want)) || !ok {
		t.Fatalf("SortedOrder(%v, %q) = %v, %v, not %v", tree, trace, sorted, ok, sortedIn(tree, want))
	}
	back := slices.Clone(sorted)
	slices.Reverse(back)
	for _, order := range [][]int{sorted, back} {
		checkInOrder(t, tree, trace, order, madeIn(want, order))
	}
}

// tellMany checks a valid trace of more than five outermost calls, of which no order is told to be the best one.
func tellMany(t *testing.T, tree []impl.Segment, trace string) {
	t.Helper()
	tellTop(t, tree, trace)
	checkNoCosts(t, tree, trace)
}

// checkNoCosts checks what is returned where a text is no trace within a tree, or has too many outermost calls.
func checkNoCosts(t *testing.T, tree []impl.Segment, trace string) {
	t.Helper()
	if best, ok := impl.BestOrder(tree, trace); len(best) != 0 || ok {
		t.Errorf("BestOrder(%v, %.100q) = %v, %v", tree, trace, best, ok)
	}
	if worst, ok := impl.WorstOrder(tree, trace); len(worst) != 0 || ok {
		t.Errorf("WorstOrder(%v, %.100q) = %v, %v", tree, trace, worst, ok)
	}
	if least, most, ok := impl.OrderCosts(tree, trace); least != 0 || most != 0 || ok {
		t.Errorf("OrderCosts(%v, %.100q) = %d, %d, %v", tree, trace, least, most, ok)
	}
}

// checkNoOrders checks what is returned where a tree is not valid or a text is no trace within it.
func checkNoOrders(t *testing.T, tree []impl.Segment, trace string) {
	t.Helper()
	checkNoCosts(t, tree, trace)
	if top, ok := impl.TopCalls(tree, trace); len(top) != 0 || ok {
		t.Errorf("TopCalls(%v, %.100q) = %q, %v", tree, trace, top, ok)
	}
	if sorted, ok := impl.SortedOrder(tree, trace); len(sorted) != 0 || ok {
		t.Errorf("SortedOrder(%v, %.100q) = %v, %v", tree, trace, sorted, ok)
	}
	for _, order := range [][]int{nil, {}, {0}, {0, 1}, {1, 0}, {0, 1, 2}, {-1}, {0, 0}} {
		checkNotInOrder(t, tree, trace, order)
	}
}

// checkNotInOrder checks what is returned where also numbers may be no order of the outermost calls.
func checkNotInOrder(t *testing.T, tree []impl.Segment, trace string, order []int) {
	t.Helper()
	if made, ok := impl.InOrder(tree, trace, order); made != "" || ok {
		t.Errorf("InOrder(%v, %.100q, %d numbers, %v) = %q, %v", tree, trace, len(order), order[:min(len(order), 10)], made, ok)
	}
}

// checkWrittenOrders checks what is written out for a trace, also by the second reckoning of it.
func checkWrittenOrders(t *testing.T, text, trace string, want ordering) {
	t.Helper()
	tree := mustParse(t, text)
	checkOrdering(t, tree, trace, want)
	tellOrders(t, tree, trace)
	if second := orderingOf(tree, trace); second != want {
		t.Fatalf("%s: %q is reckoned as %v, not %v", text, trace, second, want)
	}
}

// An orderRow is what is written out for the outermost calls of a trace within a tree.
type orderRow struct {
	text, trace string
	want        ordering
}

func checkOrderRows(t *testing.T, rows []orderRow) {
	t.Helper()
	for _, row := range rows {
		checkWrittenOrders(t, row.text, row.trace, row.want)
	}
}

func TestOrdersAreAllOfThem(t *testing.T) {
	for i, want := range []string{"", "0", "01 10", "012 021 102 120 201 210"} {
		if got := strings.Join(ordersOver(i), " "); got != want {
			t.Errorf("orders of %d calls: %s", i, got)
		}
	}
	if all := ordersOver(5); len(slices.Compact(all)) != 120 || all[0] != "01234" || all[119] != "43210" {
		t.Errorf("orders of five calls: %s", all)
	}
}

func TestOrdersOfTheDocument(t *testing.T) {
	tree := mustParse(t, "A1(B2,C3)")
	checkWrittenOrders(t, "A1(B2,C3)", "BCB", ordering{"B C B", "021", "012", "021", 6, 8})
	for order, want := range map[string]int{"012": 8, "021": 6, "102": 6, "120": 6, "201": 6, "210": 8} {
		made, _ := impl.InOrder(tree, "BCB", indicesIn(order))
		if cost := impl.RunCost(tree, made); cost != want {
			t.Errorf("%q costs %d", made, cost)
		}
	}
	// The lines "orders", "calls" and "sort" of the script of chapter 12.
	built := "A4(B3(D1),C5,E2)"
	checkWrittenOrders(t, built, "B(D)C", ordering{"B(D) C", "01", "01", "01", 13, 13})
	checkWrittenOrders(t, built, "BCBC", ordering{"B C B C", "0213", "0123", "0213", 12, 20})
	checkWrittenOrders(t, built, "B(D)CB(D)C", ordering{"B(D) C B(D) C", "0213", "0123", "0213", 13, 22})
	checkInOrder(t, mustParse(t, built), "B(D)CB(D)C", []int{0, 2, 1, 3}, "B(D)B(D)CC")
}

func TestOrdersOfNoCalls(t *testing.T) {
	for text, size := range map[string]int{"A1": 1, "H99": 99, "A4(B3,C5(D1,E2))": 4, "D7(H3(A1,B1(C9)),E5(F1,G2))": 7} {
		checkWrittenOrders(t, text, "", ordering{least: size, most: size})
		tree := mustParse(t, text)
		checkInOrder(t, tree, "", nil, "")
		checkInOrder(t, tree, "", []int{}, "")
		for _, order := range [][]int{{0}, {-1}, {1}, {0, 1}, {0, 0}} {
			checkNotInOrder(t, tree, "", order)
		}
	}
}

func TestOrdersOfOneCall(t *testing.T) {
	for _, c := range []struct {
		text, trace string
		cost        int
	}{
		{"A4(B3,C5(D1,E2))", "A", 4}, {"A4(B3,C5(D1,E2))", "B", 7}, {"A4(B3,C5(D1,E2))", "D", 10}, {"A4(B3,C5(D1,E2))", "B(D)", 16}, {"A4(B3,C5(D1,E2))", "A(BCB)", 15}, {"A4(B3,C5(D1,E2))", "D(EEE)", 19},
		{"A4(B3,C5(D1,E2))", "B(CCCCCC)", 55}, {"A4(B3,C5(D1,E2))", nested("BCBCBCBC"), 63}, {"A4(B3,C5(D1,E2))", "B(" + strings.Repeat("CB", 38) + "C)", 4 + 3 + 39*8}, {"H99", nested("HHHHHHHH"), 99},
	} {
		checkWrittenOrders(t, c.text, c.trace, ordering{c.trace, "0", "0", "0", c.cost, c.cost})
		tree := mustParse(t, c.text)
		checkInOrder(t, tree, c.trace, []int{0}, c.trace)
		for _, order := range [][]int{nil, {1}, {-1}, {0, 1}, {0, 0}, {1, 0}} {
			checkNotInOrder(t, tree, c.trace, order)
		}
	}
}

// TestCallsThatLeaveSomethingLoaded checks calls that begin with something else than what they leave for the next one.
func TestCallsThatLeaveSomethingLoaded(t *testing.T) {
	checkOrderRows(t, []orderRow{
		// The call of C leaves C loaded, though B was loaded last: B behind it is loaded once more.
		{"A1(B2,C3)", "C(B)B", ordering{"C(B) B", "01", "01", "10", 11, 11}},
		{"A1(B2,C3)", "C(B)BC", ordering{"C(B) B C", "021", "012", "102", 11, 14}},
		{"A1(B2,C3)", "C(B)BCB", ordering{"C(B) B C B", "0213", "0123", "1302", 11, 16}},
		// E, then D and E, then D: each call leaves what the one behind it does not need, unless they are turned round.
		{"A1(B1(D2,E3))", "B(E)B(DE)B(D)", ordering{"B(E) B(DE) B(D)", "210", "012", "012", 7, 12}},
		{"A1(B1(D2,E3))", "B(D)B(DE)B(E)", ordering{"B(D) B(DE) B(E)", "012", "021", "012", 7, 12}},
		{"A1(B1(D2,E3))", "B(DE)B(DE)", ordering{"B(DE) B(DE)", "01", "01", "01", 12, 12}},
		{"A1(B1(D2,E3))", "B(DE)B(ED)", ordering{"B(DE) B(ED)", "01", "10", "01", 9, 10}},
		// D stays loaded behind a call of B that needs nothing else.
		{"A1(B2(D4),C3)", "B(D)BD", ordering{"B(D) B D", "012", "012", "012", 7, 7}},
		{"A1(B2(D4),C3)", "B(D)CD", ordering{"B(D) C D", "021", "012", "021", 10, 16}},
		{"A1(B2(D4),C3)", "DCB", ordering{"D C B", "021", "012", "201", 10, 12}},
		{"A1(B2(D4),C3)", "BCD", ordering{"B C D", "021", "012", "021", 10, 12}},
	})
}

// TestSeveralOrdersOfOneCost checks orders that cost the same, of which the first one is told.
func TestSeveralOrdersOfOneCost(t *testing.T) {
	checkOrderRows(t, []orderRow{
		{"A1(B2,C2)", "BC", ordering{"B C", "01", "01", "01", 5, 5}}, {"A1(B2,C2)", "CB", ordering{"C B", "01", "01", "10", 5, 5}}, {"A1(B2,C3)", "BBB", ordering{"B B B", "012", "012", "012", 3, 3}},
		{"A1(B2,C3,D4)", "DCB", ordering{"D C B", "012", "012", "210", 10, 10}}, {"A1(B2,C3)", "BBCC", ordering{"B B C C", "0123", "0213", "0123", 6, 11}}, {"A1(B2,C3)", "CBBC", ordering{"C B B C", "0312", "0132", "1203", 6, 11}},
		// BC and CB alternate in four ways each, and both cost the same.
		{"A1(B2,C2)", "BCBC", ordering{"B C B C", "0213", "0123", "0213", 5, 9}}, {"A1(B2,C2)", "CBBC", ordering{"C B B C", "0312", "0132", "1203", 5, 9}},
		// Three of one segment and two of another one cost most if the two stand between.
		{"A1(B2,C3)", "BBBCC", ordering{"B B B C C", "01234", "03142", "01234", 6, 13}}, {"A1(B2,C3)", "CBBBC", ordering{"C B B B C", "04123", "10243", "12304", 6, 13}},
	})
}

func TestCallsOfTheRoot(t *testing.T) {
	checkOrderRows(t, []orderRow{
		{"A1(B2,C3)", "ACB", ordering{"A C B", "012", "012", "021", 6, 6}}, {"A1(B2,C3)", "BAB", ordering{"B A B", "012", "012", "102", 3, 3}}, {"A1(B2,C3)", "AAAAA", ordering{"A A A A A", "01234", "01234", "01234", 1, 1}},
		// What lies below the root stays loaded while it is called.
		{"A1(B2,C3)", "BACAB", ordering{"B A C A B", "01342", "01234", "13042", 6, 8}}, {"A1(B2,C3)", "A(B)A(C)A(B)", ordering{"A(B) A(C) A(B)", "021", "012", "012", 6, 8}}, {"D1(B2,A3)", "AD(B)A", ordering{"A D(B) A", "021", "012", "102", 6, 9}},
		{"H5", "HHH(H)", ordering{"H H H(H)", "012", "012", "012", 5, 5}},
	})
}

// TestCallsWithCallsWithinThem checks that calls are moved with all that lies within them, and that only the outermost ones are.
func TestCallsWithCallsWithinThem(t *testing.T) {
	checkOrderRows(t, []orderRow{
		{"A1(B2,C3)", "B(CB)C", ordering{"B(CB) C", "01", "01", "01", 11, 11}}, {"A1(B2,C3)", "B(C)C(B)B", ordering{"B(C) C(B) B", "021", "012", "021", 16, 18}},
		{"A4(B3,C5(D1,E2))", "C(D)E", ordering{"C(D) E", "01", "01", "01", 12, 12}}, {"A4(B3,C5(D1,E2))", "C(D)BE(D)", ordering{"C(D) B E(D)", "021", "012", "102", 18, 23}},
		{"A4(B3,C5(D1,E2))", "B(C(D(E)E)D)E(BB)B", ordering{"B(C(D(E)E)D) E(BB) B", "021", "012", "021", 57, 60}},
	})
	for trace, want := range map[string]string{
		"B(D)C": "B(D) C", "BC(D)": "B C(D)", "B(C)C(B)": "B(C) C(B)", "B(C(D))C(B)D": "B(C(D)) C(B) D", "B(C(D(E)E)D)": "B(C(D(E)E)D)", "B(CD)B(CD)": "B(CD) B(CD)", "A(A(A(A)))A": "A(A(A(A))) A", "BB(B)B": "B B(B) B",
		"B(C)D(E(B)E)A(C)": "B(C) D(E(B)E) A(C)", "B(CDE)C(DEB)D(EBC)E(BCD)A(A)": "B(CDE) C(DEB) D(EBC) E(BCD) A(A)",
	} {
		tree := mustParse(t, "A4(B3,C5(D1,E2))")
		if top, ok := impl.TopCalls(tree, trace); strings.Join(top, " ") != want || !ok {
			t.Errorf("TopCalls(%q) = %q, %v", trace, top, ok)
		}
		tellOrders(t, tree, trace)
	}
	// Ten calls are no more than five outermost ones.
	tellOrders(t, mustParse(t, "A4(B3,C5(D1,E2))"), "B(C)D(E)C(B)E(D)B(E)")
}

// TestFiveCallsAndSix checks the greatest number of outermost calls that are put in order, and greater ones, which are only told and sorted.
func TestFiveCallsAndSix(t *testing.T) {
	checkOrderRows(t, []orderRow{
		{"A1(B2,C3)", "BCBCB", ordering{"B C B C B", "02413", "01234", "02413", 6, 13}}, {"A1(B2,C3)", "CBCBC", ordering{"C B C B C", "02413", "01234", "13024", 6, 14}},
		{"A1(B2,C3,D4,E5,F6)", "FEDCB", ordering{"F E D C B", "01234", "01234", "43210", 21, 21}}, {"A1(B2,C3)", "B(C)B(C)B(C)B(C)B(C)", ordering{"B(C) B(C) B(C) B(C) B(C)", "01234", "01234", "01234", 28, 28}},
	})
	tree := mustParse(t, "A1(B2,C3)")
	for _, trace := range []string{
		"BCBCBC", "BBBBBB", "AAAAAA", "CCCBBB", "B(C)BBBBB", "BBBBBB(C)", "B(C)C(B)B(C)C(B)B(C)C(B)", "ABCABC", "BCBCBCB", "CBACBACBACBA", "B(CB)ACB(A)BC(A)A(C)B(B)", strings.Repeat("CBA", 5), strings.Repeat("CB(C)A", 10),
	} {
		tellMany(t, tree, trace)
	}
	for _, digits := range []string{"012345", "543210", "024135", "102345", "012354", "504132"} {
		order := indicesIn(digits)
		checkInOrder(t, tree, "BC(B)B(C)CBA", order, madeIn([]string{"B", "C(B)", "B(C)", "C", "B", "A"}, order))
	}
	if sorted, ok := impl.SortedOrder(tree, "BCBCBC"); !slices.Equal(sorted, []int{0, 2, 4, 1, 3, 5}) || !ok {
		t.Errorf("SortedOrder = %v, %v", sorted, ok)
	}
	// All that fits into 80 bytes.
	for _, trace := range []string{strings.Repeat("B", 80), strings.Repeat("CB", 40), strings.Repeat("CBA", 26), strings.Repeat("B(C)", 20), strings.Repeat("C(B)BCC(A)", 8), nested("BCBCBCBC") + strings.Repeat("CB", 29)} {
		tellMany(t, tree, trace)
	}
}

// TestSortedCallsOfOneSegment checks that many calls of one segment, which differ in the calls within them, stand as they stood.
func TestSortedCallsOfOneSegment(t *testing.T) {
	const (
		trace    = "CB(C)D(A)B(A)C(D)DBD(B)CB(D)CB(C)DC(B)B"
		ofB      = "B(C)B(A)BB(D)B(C)B"
		ofC      = "CC(D)CCC(B)"
		ofD      = "D(A)DD(B)D"
		longCall = "(ABABABABABABABABABAB)"
	)
	for text, want := range map[string]string{"A1(B1(D1),C1)": ofB + ofD + ofC, "C1(D1,B1,A1)": ofC + ofD + ofB, "D1(C1(B1(A1)))": ofD + ofC + ofB, "B1(A1,C1(D1))": ofB + ofC + ofD} {
		tree := mustParse(t, text)
		tellMany(t, tree, trace)
		sorted, ok := impl.SortedOrder(tree, trace)
		if !ok {
			t.Errorf("%s: SortedOrder(%q) is false", text, trace)
		}
		checkInOrder(t, tree, trace, sorted, want)
		tellMany(t, tree, "C"+longCall+trace)
	}
}

// TestSortedAsTheTree checks that calls are sorted in the order of the tree, which is not that of the alphabet.
func TestSortedAsTheTree(t *testing.T) {
	for text, want := range map[string]string{
		"A1(B1,C1,D1,E1)": "43210", "E1(D1,C1,B1,A1)": "01234", "C1(E1,A1(D1,B1))": "20413", "B1(A1(E1(D1(C1))))": "34012", "D1(B1,E1,A1,C1)": "13042",
	} {
		tree := mustParse(t, text)
		tellOrders(t, tree, "EDCBA")
		if sorted, ok := impl.SortedOrder(tree, "EDCBA"); digitsFor(sorted) != want || !ok {
			t.Errorf("%s: SortedOrder = %v, %v, not %s", text, sorted, ok, want)
		}
	}
}

// listsOver returns all lists of up to n numbers from least to greatest.
func listsOver(least, greatest, n int) [][]int {
	all := [][]int{{}}
	for begin := 0; n > 0; n-- {
		end := len(all)
		for _, list := range all[begin:end] {
			for number := least; number <= greatest; number++ {
				all = append(all, append(slices.Clone(list), number))
			}
		}
		begin = end
	}
	return all
}

// TestListsOfNumbers checks all short lists of numbers: those that have each index once are orders, and no others.
func TestListsOfNumbers(t *testing.T) {
	tree := mustParse(t, "A4(B3,C5(D1,E2))")
	for _, trace := range []string{"", "B", "B(D)", "BC", "BB", "B(D)C(B)", "BCB", "BBB", "B(D)CA(E)", "BCDE"} {
		top := topIn(trace)
		orders := ordersOver(len(top))
		for _, order := range listsOver(-1, len(top)+1, len(top)+1) {
			if slices.Contains(orders, digitsFor(order)) {
				checkInOrder(t, tree, trace, order, madeIn(top, order))
			} else {
				checkNotInOrder(t, tree, trace, order)
			}
		}
	}
}

func TestNumbersThatAreNoOrder(t *testing.T) {
	tree := mustParse(t, "A4(B3,C5(D1,E2))")
	for _, order := range [][]int{
		nil, {}, {0}, {0, 1}, {1, 2}, {0, 1, 2, 0}, {0, 1, 2, 3}, {2, 1, 0, -1}, {0, 1, 2, 0, 1, 2}, {0, 1, 1}, {0, 0, 2}, {1, 1, 1}, {2, 2, 2}, {0, 1, 3}, {3, 1, 0}, {1, 2, 3}, {-1, 0, 1}, {-1, 1, 2}, {0, -1, 2}, {0, 1, -2},
		{0, 1, math.MaxInt}, {math.MinInt, 1, 2}, {0, 1, 1 << 32}, {0, 1 << 32, 1}, {1 << 32, 1<<32 + 1, 1<<32 + 2}, {0, 1, 2 + 1<<8}, {0, 1, 2 - 1<<8}, {0, 1, 2 + 1<<16}, {0, 1, 2 - 1<<32}, {48, 49, 50}, make([]int, 3), make([]int, 1000000),
	} {
		checkNotInOrder(t, tree, "BCB", order)
		checkNotInOrder(t, tree, "B(D)C(BC)A", order)
		checkNotInOrder(t, tree, "BBB", order)
	}
}

// TestOrdersOfManyCalls checks orders of as many outermost calls as a trace can have.
func TestOrdersOfManyCalls(t *testing.T) {
	tree := mustParse(t, "A4(B3,C5(D1,E2))")
	long, longest := strings.Repeat("B(D)C", 16), strings.Repeat("BC", 40)
	var many []int
	for i := range impl.MaxTrace {
		many = append(many, i)
	}
	checkInOrder(t, tree, long, many[:32], long)
	checkInOrder(t, tree, longest, many, longest)
	checkInOrder(t, tree, longest, slices.Concat(many[40:], many[:40]), longest)
	checkInOrder(t, tree, longest, append(slices.Clone(many[1:]), 0), strings.Repeat("CB", 40))
	checkNotInOrder(t, tree, long, many)
	checkNotInOrder(t, tree, long, many[:31])
	checkNotInOrder(t, tree, long, many[:33])
	checkNotInOrder(t, tree, long, many[1:33])
	checkNotInOrder(t, tree, long, append(slices.Clone(many[:31]), 30))
	checkNotInOrder(t, tree, longest, append(slices.Clone(many[:79]), 0))
	checkNotInOrder(t, tree, longest, append(slices.Clone(many[:79]), 80))
	checkNotInOrder(t, tree, longest, append(slices.Clone(many), 80))
	checkNotInOrder(t, tree, longest, many[:79])
}

// callWithin returns a call of some segments that has at most so many calls within each other and at most 13 bytes if these are three.
func (c *chooser) callWithin(names string, depth int) string {
	at := c.below(len(names))
	called := names[at : at+1]
	if depth == 1 || c.below(2) == 0 {
		return called
	}
	made := c.callWithin(names, depth-1)
	for len(made) < 4 && c.below(2) == 0 {
		made += c.callWithin(names, depth-1)
	}
	return called + "(" + made + ")"
}

// traceWithin returns a trace of so many outermost calls of a few segments of a tree.
func (c *chooser) traceWithin(tree []impl.Segment, count int) string {
	names := ""
	for range 2 + c.below(3) {
		names += tree[c.below(len(tree))].Name
	}
	trace := ""
	for range count {
		trace += c.callWithin(names, 3)
	}
	return trace
}

func TestOrdersWithinAllTrees(t *testing.T) {
	for n := 1; n <= 3; n++ {
		for _, parents := range preorders(n) {
			for _, tree := range treesOfShape(parents) {
				names, _ := impl.NamesOf(tree)
				for _, trace := range tracesOver(names, 4) {
					tellOrders(t, tree, trace)
				}
			}
		}
	}
	var c chooser
	for n := 2; n <= impl.MaxSegments; n++ {
		shapes := preorders(n)
		for count := 1; count <= 12; count++ {
			for range 3 {
				for _, tree := range treesOfShape(shapes[c.below(len(shapes))]) {
					trace := c.traceWithin(tree, count)
					switch {
					case len(trace) > impl.MaxTrace:
						checkNoOrders(t, tree, trace)
					case count > impl.MaxTop:
						tellMany(t, tree, trace)
					default:
						tellOrders(t, tree, trace)
					}
				}
			}
		}
	}
}

// TestOrdersInLongestTraces checks traces of 80 bytes and of eight calls within each other, and ones of more.
func TestOrdersInLongestTraces(t *testing.T) {
	tree := mustParse(t, "A4(B3,C5(D1,E2))")
	inner := "BDBCEDBEDCBDA"
	five := ""
	for _, name := range strings.Split("BDCEB", "") {
		five += name + "(" + inner + ")"
	}
	for _, trace := range []string{five, nested("BDBDBDBD") + nested("CECECECE") + nested("EBEBEBEB"), "BC(" + strings.Repeat("D", 73) + ")BB", nested("BCDEABCD") + "CB" + nested("DDDDBBBB") + "A"} {
		if len(trace) > impl.MaxTrace {
			t.Fatalf("%q has %d bytes", trace, len(trace))
		}
		tellOrders(t, tree, trace)
	}
	if len(five) != impl.MaxTrace {
		t.Errorf("%q has %d bytes", five, len(five))
	}
	for _, trace := range []string{
		five + "B", "B" + five, strings.Repeat("B", 81), strings.Repeat("BC", 41), "B(" + strings.Repeat("D", 78) + ")", strings.Repeat("B", 1000000), strings.Repeat("B(", 1000000), nested("BBBBBBBBB"), "C" + nested("BBBBBBBBB"), nested("BCDEABCDE") + "B",
	} {
		checkNoOrders(t, tree, trace)
	}
}

func TestOrdersInTextsOfNoTrace(t *testing.T) {
	tree := mustParse(t, "A4(B3,C5(D1,E2))")
	for _, trace := range textsOfNoTrace() {
		checkNoOrders(t, tree, trace)
	}
	checkNoOrders(t, mustParse(t, "A1(B1)"), "C")
	checkNoOrders(t, mustParse(t, "A1(B1)"), "B C")
	checkNoOrders(t, mustParse(t, "A1"), "B")
}

func TestOrdersWithinInvalidTrees(t *testing.T) {
	for _, tree := range invalidTrees() {
		for _, trace := range []string{"", "A", "B", "AB", "B(A)C", "BBBBBB", "I", "()"} {
			checkNoOrders(t, tree, trace)
		}
	}
}

func TestOrdersChangeNothing(t *testing.T) {
	row := mustParse(t, "A4(B3,C5(D1,E2),F1)")
	kept := slices.Clone(row)
	tellOrders(t, row[:5], "B(D)C(B(E)E)B")
	if !slices.Equal(row, kept) {
		t.Errorf("a function changed its argument to %v", row)
	}
	numbers := []int{2, 0, 1, 7, 9}
	checkInOrder(t, row, "BC(D)B", numbers[:3], "BBC(D)")
	checkNotInOrder(t, row, "BC(D)", numbers[:3])
	if !slices.Equal(numbers, []int{2, 0, 1, 7, 9}) {
		t.Errorf("InOrder changed its argument to %v", numbers)
	}
}

func TestOrdersShareNothing(t *testing.T) {
	tree := mustParse(t, "A4(B3,C5(D1,E2))")
	trace := "B(D)CBCB(E)"
	want := orderingOf(tree, trace)
	for range 2 {
		top, _ := impl.TopCalls(tree, trace)
		best, _ := impl.BestOrder(tree, trace)
		worst, _ := impl.WorstOrder(tree, trace)
		sorted, _ := impl.SortedOrder(tree, trace)
		checkOrdering(t, tree, trace, want)
		clear(top[:cap(top)])
		clear(best[:cap(best)])
		if digitsFor(worst) != want.worst || digitsFor(sorted) != want.sorted {
			t.Errorf("a change of the best order changes others to %v and %v", worst, sorted)
		}
		clear(worst[:cap(worst)])
		if digitsFor(sorted) != want.sorted {
			t.Errorf("a change of the worst order changes the sorted one to %v", sorted)
		}
		clear(sorted[:cap(sorted)])
		checkOrdering(t, tree, trace, want)
	}
}
