package tests

import (
	"math"
	"slices"
	"strings"
	"sync"
	"testing"

	"loop.example/segmentrooms/impl"
)

// A pinning is what is told of a run in which segments stay, and of the room that these take.
type pinning struct {
	loads string
	cost  int
	room  int
}

// pinsIn returns all pins of a tree in order: by the indices of their segments, written as digits.
func pinsIn(tree []impl.Segment) []string {
	var names, all []string
	for _, s := range tree[1:] {
		names = append(names, s.Name)
	}
	for bits := range 1 << len(names) {
		all = append(all, strings.Join(chosen(names, bits), ""))
	}
	slices.SortFunc(all, func(a, b string) int { return strings.Compare(digitsIn(tree, a), digitsIn(tree, b)) })
	return all
}

// digitsIn returns, for each of some names, the index of its segment.
func digitsIn(tree []impl.Segment, names string) string {
	return strings.Map(func(c rune) rune { return '0' + rune(indexIn(tree, string(c))) }, names)
}

func indexIn(tree []impl.Segment, name string) int {
	return slices.IndexFunc(tree, func(s impl.Segment) bool { return s.Name == name })
}

// movingIn returns the path of the segment at an index without the root and the pins.
func movingIn(tree []impl.Segment, index int, pins string) string {
	path := pathIn(tree, index)[1:]
	for _, pin := range strings.Split(pins, "") {
		path = strings.Replace(path, pin, "", 1)
	}
	return path
}

// pinningOf returns what is told of a valid trace in whose run segments stay. What is loaded besides these and the path of
// what is needed begin alike, and from where they differ the one is lost and the other one loaded.
func pinningOf(tree []impl.Segment, trace, pins string) pinning {
	stay := tree[0].Name + pins
	want := pinning{loads: stay}
	loaded := ""
	for _, name := range strings.Split(tellingOf(tree, trace).needs, "") {
		path := movingIn(tree, indexIn(tree, name), pins)
		alike := 0
		for alike < min(len(loaded), len(path)) && loaded[alike] == path[alike] {
			alike++
		}
		if alike < len(path) {
			want.loads += path[alike:]
			loaded = path
		}
	}
	want.cost = costIn(tree, want.loads)
	for i := range tree {
		want.room = max(want.room, costIn(tree, stay)+costIn(tree, movingIn(tree, i, pins)))
	}
	return want
}

// bestIn returns the first of some pins, which stand in order, that cost least, and of those that take the least room,
// and false if none fits into a room.
func bestIn(all []string, pinnings []pinning, room int) (string, bool) {
	best := -1
	for i, p := range pinnings {
		if p.room <= room && (best < 0 || p.cost < pinnings[best].cost || p.cost == pinnings[best].cost && p.room < pinnings[best].room) {
			best = i
		}
	}
	if best < 0 {
		return "", false
	}
	return all[best], true
}

// fittingIn returns those of some pins that fit into a room.
func fittingIn(all []string, pinnings []pinning, room int) []string {
	var fit []string
	for i, pins := range all {
		if pinnings[i].room <= room {
			fit = append(fit, pins)
		}
	}
	return fit
}

// tellPinned checks all that is told of a valid trace in whose run segments stay, and that these are loaded once.
func tellPinned(t *testing.T, tree []impl.Segment, trace, pins string) {
	t.Helper()
	checkPinned(t, tree, trace, pins, pinningOf(tree, trace, pins))
	loads, _ := impl.PinLoads(tree, trace, pins)
	if !strings.HasPrefix(loads, tree[0].Name+pins) || strings.ContainsAny(loads[1+len(pins):], tree[0].Name+pins) {
		t.Fatalf("PinLoads(%v, %q, %q) = %q, which does not load what stays once", tree, trace, pins, loads)
	}
}

func checkPinned(t *testing.T, tree []impl.Segment, trace, pins string, want pinning) {
	t.Helper()
	if room := impl.PinRoom(tree, pins); room != want.room || !impl.PinsValid(tree, pins) {
		t.Fatalf("PinRoom, PinsValid(%v, %q) = %d, %v, not %d", tree, pins, room, impl.PinsValid(tree, pins), want.room)
	}
	if loads, ok := impl.PinLoads(tree, trace, pins); loads != want.loads || !ok {
		t.Fatalf("PinLoads(%v, %q, %q) = %q, %v, not %q", tree, trace, pins, loads, ok, want.loads)
	}
	gain, ok := impl.PinGain(tree, trace, pins)
	if cost := impl.PinCost(tree, trace, pins); cost != want.cost || gain != runningOf(tree, trace).cost-want.cost || !ok {
		t.Fatalf("PinCost, PinGain(%v, %q, %q) = %d, %d, %v, not %d", tree, trace, pins, cost, gain, ok, want.cost)
	}
}

// checkWithPins checks what is written out for a trace in whose run segments stay, also by the second reckoning of it.
func checkWithPins(t *testing.T, tree []impl.Segment, trace, pins string, want pinning) {
	t.Helper()
	checkPinned(t, tree, trace, pins, want)
	if second := pinningOf(tree, trace, pins); second != want {
		t.Fatalf("%v: %q with %q is reckoned as %v, not %v", tree, trace, pins, second, want)
	}
}

// A pinnedRow is what is written out for a trace in whose run segments stay.
type pinnedRow struct {
	trace, pins string
	want        pinning
}

// checkPinnedRows checks what is written out, and the same traces with all other pins.
func checkPinnedRows(t *testing.T, tree []impl.Segment, rows []pinnedRow) {
	t.Helper()
	for _, row := range rows {
		checkWithPins(t, tree, row.trace, row.pins, row.want)
		tellPins(t, tree, row.trace)
	}
}

func checkAllPins(t *testing.T, tree []impl.Segment, room int, want []string) {
	t.Helper()
	if got, ok := impl.AllPins(tree, room); !slices.Equal(got, want) || !ok {
		t.Fatalf("AllPins(%v, %d) = %q, %v, not %q", tree, room, got, ok, want)
	}
}

func checkBest(t *testing.T, tree []impl.Segment, trace string, room int, want string, wantOK bool) {
	t.Helper()
	if got, ok := impl.BestPins(tree, trace, room); got != want || ok != wantOK {
		t.Fatalf("BestPins(%v, %q, %d) = %q, %v, not %q, %v", tree, trace, room, got, ok, want, wantOK)
	}
}

// tellChosen checks which pins fit into rooms, and which of them are best for a valid trace.
func tellChosen(t *testing.T, tree []impl.Segment, trace string, rooms ...int) {
	t.Helper()
	all := pinsIn(tree)
	var pinnings []pinning
	for _, pins := range all {
		pinnings = append(pinnings, pinningOf(tree, trace, pins))
	}
	for _, room := range rooms {
		checkAllPins(t, tree, room, fittingIn(all, pinnings, room))
		best, ok := bestIn(all, pinnings, room)
		checkBest(t, tree, trace, room, best, ok)
	}
}

// roomsOf returns all rooms from the greatest one in which nothing fits to the least one in which all fit, and one more.
func roomsOf(tree []impl.Segment) []int {
	var rooms []int
	for room := impl.RoomOf(tree) - 1; room <= impl.TotalSize(tree)+1; room++ {
		rooms = append(rooms, room)
	}
	return rooms
}

// tellPins checks a valid trace with all pins and in all rooms.
func tellPins(t *testing.T, tree []impl.Segment, trace string) {
	t.Helper()
	for _, pins := range pinsIn(tree) {
		tellPinned(t, tree, trace, pins)
	}
	tellChosen(t, tree, trace, roomsOf(tree)...)
}

// checkNotPinned checks what is returned where a tree is not valid or a text is no pins of it.
func checkNotPinned(t *testing.T, tree []impl.Segment, pins string) {
	t.Helper()
	if room := impl.PinRoom(tree, pins); room != -1 || impl.PinsValid(tree, pins) {
		t.Errorf("PinRoom, PinsValid(%v, %.100q) = %d, %v", tree, pins, room, impl.PinsValid(tree, pins))
	}
	for _, trace := range []string{"", "A", "B", "B(A)C", "("} {
		checkNoPinnedRun(t, tree, trace, pins)
	}
}

// checkNoPinnedRun checks what is returned where a tree, a trace or pins are not valid.
func checkNoPinnedRun(t *testing.T, tree []impl.Segment, trace, pins string) {
	t.Helper()
	if loads, ok := impl.PinLoads(tree, trace, pins); loads != "" || ok {
		t.Errorf("PinLoads(%v, %.100q, %.100q) = %q, %v", tree, trace, pins, loads, ok)
	}
	gain, ok := impl.PinGain(tree, trace, pins)
	if cost := impl.PinCost(tree, trace, pins); cost != -1 || gain != 0 || ok {
		t.Errorf("PinCost, PinGain(%v, %.100q, %.100q) = %d, %d, %v", tree, trace, pins, cost, gain, ok)
	}
}

// checkNothingStays checks what is returned where a tree is not valid or a text is no trace within it.
func checkNothingStays(t *testing.T, tree []impl.Segment, trace string) {
	t.Helper()
	for _, pins := range []string{"", "B", "C", "BC", "CB", "A"} {
		checkNoPinnedRun(t, tree, trace, pins)
	}
	for _, room := range []int{-1, 0, 1, 12, 100, math.MaxInt} {
		checkBest(t, tree, trace, room, "", false)
	}
}

func TestPinsOfTheDocument(t *testing.T) {
	small := mustParse(t, "A1(B2,C3)")
	checkBest(t, small, "BCB", 6, "B", true)
	for pins, want := range map[string]pinning{"": {"ABCB", 8, 4}, "B": {"ABC", 6, 6}, "C": {"ACB", 6, 6}, "BC": {"ABC", 6, 6}} {
		checkWithPins(t, small, "BCB", pins, want)
	}
	tellPins(t, small, "BCB")
	// The lines "pins 12" and "pin C" of the script of chapter 12.
	built := mustParse(t, "A4(B3(D1),C5,E2)")
	checkBest(t, built, "BCBC", 12, "B", true)
	checkWithPins(t, built, "BCBC", "B", pinning{"ABC", 12, 12})
	checkWithPins(t, built, "BCBC", "C", pinning{"ACB", 12, 13})
	tellPins(t, built, "BCBC")
}

// TestPinsThatAreNeverNeeded checks that what stays is loaded and takes room, also if nothing needs it.
func TestPinsThatAreNeverNeeded(t *testing.T) {
	tree := mustParse(t, "A4(B3,C5(D1,E2))")
	checkPinnedRows(t, tree, []pinnedRow{
		{"B", "C", pinning{"ACB", 12, 12}}, {"B", "D", pinning{"ADB", 8, 12}}, {"B", "DE", pinning{"ADEB", 10, 12}}, {"B", "CDE", pinning{"ACDEB", 15, 15}},
		{"C", "B", pinning{"ABC", 12, 14}}, {"C", "E", pinning{"AEC", 11, 12}}, {"A", "E", pinning{"AE", 6, 12}}, {"AA(A)", "BD", pinning{"ABD", 8, 15}},
		{"BCB", "E", pinning{"AEBCB", 17, 12}}, {"B(C)B", "DE", pinning{"ADEBCB", 18, 12}}, {"D", "E", pinning{"AECD", 12, 12}}, {"D", "BE", pinning{"ABECD", 15, 15}},
	})
	// Nothing should stay if it costs more or takes more room for the same cost.
	for _, trace := range []string{"", "A", "B", "C", "D", "CD", "CDC(E)", "BB(B)"} {
		for _, room := range []int{11, 12, 15, 100} {
			checkBest(t, tree, trace, room, "", true)
		}
	}
}

// TestChildrenOfPins checks segments that are loaded and lost below others that stay.
func TestChildrenOfPins(t *testing.T) {
	tree := mustParse(t, "A4(B3,C5(D1,E2))")
	checkPinnedRows(t, tree, []pinnedRow{
		{"D", "C", pinning{"ACD", 10, 12}}, {"DED", "C", pinning{"ACDED", 13, 12}}, {"D(E)", "C", pinning{"ACDED", 13, 12}}, {"DBE", "C", pinning{"ACDBE", 15, 12}},
		{"D(B)E", "C", pinning{"ACDBDE", 16, 12}}, {"DCD", "C", pinning{"ACD", 10, 12}}, {"BCB", "C", pinning{"ACB", 12, 12}}, {"B(C(D))", "C", pinning{"ACBDB", 16, 12}},
		// A need for what stays loses nothing, whatever else is loaded.
		{"D(C(D))", "C", pinning{"ACD", 10, 12}}, {"EBEB", "CE", pinning{"ACEB", 14, 14}}, {"B(E)B", "CE", pinning{"ACEB", 14, 14}}, {"B(E(D)E)", "CE", pinning{"ACEBDB", 18, 14}},
		{"BDB", "BC", pinning{"ABCD", 13, 14}}, {"DED", "BCD", pinning{"ABCDE", 15, 15}}, {"B(D(C(E)))", "BCDE", pinning{"ABCDE", 15, 15}},
	})
	deep := mustParse(t, "A1(B2(C3(D4,E5),F6))")
	checkPinnedRows(t, deep, []pinnedRow{
		{"DFE", "C", pinning{"ACBDFE", 21, 12}}, {"DFE", "B", pinning{"ABCDFCE", 24, 11}}, {"DFE", "BC", pinning{"ABCDFE", 21, 12}}, {"DFD", "BC", pinning{"ABCDFD", 20, 12}},
		{"D(A)D", "BC", pinning{"ABCD", 10, 12}}, {"F(C)F", "C", pinning{"ACBF", 12, 12}}, {"F(D)F", "C", pinning{"ACBFDF", 22, 12}}, {"CFC", "B", pinning{"ABCFC", 15, 11}},
	})
}

// TestPinsBelowOthers checks segments that stay below others that do not, which are needed with them all the same.
func TestPinsBelowOthers(t *testing.T) {
	tree := mustParse(t, "A4(B3,C5(D1,E2))")
	checkPinnedRows(t, tree, []pinnedRow{
		{"D", "D", pinning{"ADC", 10, 12}}, {"DE", "D", pinning{"ADCE", 12, 12}}, {"DED", "D", pinning{"ADCE", 12, 12}}, {"DED", "DE", pinning{"ADEC", 12, 12}}, {"DBD", "D", pinning{"ADCBC", 18, 12}},
		{"D(B)", "D", pinning{"ADCBC", 18, 12}}, {"BDEB", "DE", pinning{"ADEBCB", 18, 12}}, {"ED(E)", "D", pinning{"ADCE", 12, 12}}, {"EBD", "D", pinning{"ADCEBC", 20, 12}}, {"BCDE", "BD", pinning{"ABDCE", 15, 15}},
	})
	chain := mustParse(t, "A1(B2(C3(D4(E5))))")
	checkPinnedRows(t, chain, []pinnedRow{
		{"E", "C", pinning{"ACBDE", 15, 15}}, {"EC", "BD", pinning{"ABDCE", 15, 15}}, {"CE", "BD", pinning{"ABDCE", 15, 15}}, {"DC", "D", pinning{"ADBC", 10, 15}}, {"BD", "C", pinning{"ACBD", 10, 15}},
		{"EDCB", "E", pinning{"AEBCD", 15, 15}}, {"B", "E", pinning{"AEB", 8, 15}}, {"D", "E", pinning{"AEBCD", 15, 15}}, {"E", "BCDE", pinning{"ABCDE", 15, 15}},
	})
}

func TestPinsWithNoCalls(t *testing.T) {
	for _, text := range []string{"A1", "H99", "A4(B3,C5(D1,E2))", "C9(B1(A99))", "D4(H3(A1,B1(C9)),E5(F1,G2))"} {
		tree := mustParse(t, text)
		for _, pins := range pinsIn(tree) {
			stay := tree[0].Name + pins
			want := pinning{stay, costIn(tree, stay), pinningOf(tree, "", pins).room}
			checkWithPins(t, tree, "", pins, want)
			if gain, ok := impl.PinGain(tree, "", pins); gain != -costIn(tree, pins) || !ok {
				t.Errorf("%s: PinGain of %q is %d, %v", text, pins, gain, ok)
			}
		}
		for _, room := range roomsOf(tree) {
			checkBest(t, tree, "", room, "", room >= impl.RoomOf(tree))
		}
	}
}

func TestPinsOfOneSegment(t *testing.T) {
	for _, text := range []string{"A1", "D50", "H99"} {
		tree := mustParse(t, text)
		root, size := tree[0].Name, tree[0].Size
		for _, trace := range []string{"", root, root + root, nested(root + root), nested(strings.Repeat(root, 8)), strings.Repeat(root, 80)} {
			checkWithPins(t, tree, trace, "", pinning{root, size, size})
			for _, room := range []int{math.MinInt, -size, -1, 0, size - 1} {
				checkBest(t, tree, trace, room, "", false)
				checkAllPins(t, tree, room, nil)
			}
			for _, room := range []int{size, size + 1, 1000, math.MaxInt} {
				checkBest(t, tree, trace, room, "", true)
				checkAllPins(t, tree, room, []string{""})
			}
		}
		for _, pins := range []string{"A", "B", "D", "H", "AA", root + root, "-", " "} {
			checkNotPinned(t, tree, pins)
		}
	}
}

func TestRoomOfPins(t *testing.T) {
	for _, c := range []struct {
		text, pins string
		want       int
	}{
		{"A4(B3,C5(D1,E2))", "", 11}, {"A4(B3,C5(D1,E2))", "B", 14}, {"A4(B3,C5(D1,E2))", "C", 12}, {"A4(B3,C5(D1,E2))", "CE", 14}, {"A4(B3,C5(D1,E2))", "CDE", 15}, {"A4(B3,C5(D1,E2))", "BE", 15}, {"A4(B3,C5(D1,E2))", "BD", 15},
		// The path that takes most of the rest is another one for each pins.
		{"A1(B9,C8,D7)", "", 10}, {"A1(B9,C8,D7)", "B", 18}, {"A1(B9,C8,D7)", "C", 18}, {"A1(B9,C8,D7)", "BC", 25}, {"A1(B9,C8,D7)", "CD", 25}, {"A1(B9,C8,D7)", "BCD", 25},
		{"A1(B5(C5),D9)", "", 11}, {"A1(B5(C5),D9)", "B", 15}, {"A1(B5(C5),D9)", "C", 15}, {"A1(B5(C5),D9)", "D", 20}, {"A1(B5(C5),D9)", "BC", 20}, {"A1(B5(C5),D9)", "BD", 20},
		// What stays on a chain takes no more room than what does not.
		{"A1(B2(C3(D4)))", "", 10}, {"A1(B2(C3(D4)))", "B", 10}, {"A1(B2(C3(D4)))", "BD", 10}, {"A1(B2(C3(D4)))", "BCD", 10},
		{"A99(B99,C99)", "", 198}, {"A99(B99,C99)", "C", 297}, {"A99(B99,C99)", "BC", 297}, {"H99(G99,F99,E99,D99,C99,B99,A99)", "GFEDCBA", 792}, {"H99(G99,F99,E99,D99,C99,B99,A99)", "G", 297},
	} {
		if got := impl.PinRoom(mustParse(t, c.text), c.pins); got != c.want {
			t.Errorf("PinRoom(%s, %q) = %d, not %d", c.text, c.pins, got, c.want)
		}
	}
}

// TestRoomsThatAreTooSmall checks rooms in which nothing fits, and those in which all pins do.
func TestRoomsThatAreTooSmall(t *testing.T) {
	for _, text := range []string{"A4(B3,C5(D1,E2))", "A1(B2,C3)", "B9(A1(C9,D9),E2)", "A1(B2(C3(D4)))", "H99(G99,F99,E99,D99,C99,B99,A99)"} {
		tree := mustParse(t, text)
		trace := tree[1].Name + tree[2].Name + tree[1].Name
		for _, room := range []int{math.MinInt, math.MinInt + 1, -1000, -impl.RoomOf(tree), -1, 0, 1, tree[0].Size, impl.RoomOf(tree) - 2, impl.RoomOf(tree) - 1} {
			checkAllPins(t, tree, room, nil)
			checkBest(t, tree, trace, room, "", false)
		}
		for _, room := range []int{impl.TotalSize(tree), impl.TotalSize(tree) + 1, 1000, 1 << 40, math.MaxInt - 1, math.MaxInt} {
			checkAllPins(t, tree, room, pinsIn(tree))
			tellChosen(t, tree, trace, room)
		}
	}
	tree := mustParse(t, "A4(B3,C5(D1,E2))")
	for room, want := range map[int]string{10: "", 11: "<>", 12: "<><C><D><DE><E>", 13: "<><C><CD><D><DE><E>", 14: "<><B><BC><C><CD><CE><D><DE><E>", 15: "<><B><BC><BCD><BCDE><BCE><BD><BDE><BE><C><CD><CDE><CE><D><DE><E>"} {
		all, ok := impl.AllPins(tree, room)
		got := ""
		for _, pins := range all {
			got += "<" + pins + ">"
		}
		if got != want || !ok {
			t.Errorf("AllPins(%d) = %q, %v, not %s", room, all, ok, want)
		}
	}
}

// TestOrdersOfPins checks pins of trees whose order is not that of the alphabet.
func TestOrdersOfPins(t *testing.T) {
	for text, want := range map[string]string{
		"A1(B1,C1,D1)": " B BC BCD BD C CD D", "A1(D1,C1,B1)": " D DC DCB DB C CB B", "D1(B1(A1),C1)": " B BA BAC BC A AC C", "C1(H1(A1(E1)))": " H HA HAE HE A AE E",
	} {
		tree := mustParse(t, text)
		checkAllPins(t, tree, impl.TotalSize(tree), strings.Split(want, " "))
		for _, pins := range strings.Split(want, " ") {
			tellPinned(t, tree, "", pins)
			for i := 1; i < len(pins); i++ {
				checkNotPinned(t, tree, pins[i:]+pins[:i])
			}
		}
	}
}

// TestSeveralPinsOfOneCost checks pins that cost the same, of which those with less room are better, and of these the first ones.
func TestSeveralPinsOfOneCost(t *testing.T) {
	for _, c := range []struct {
		text, trace string
		room        int
		want        string
	}{
		// All that stay cost 5 and take 5.
		{"A1(B2,C2)", "BCBC", 5, "B"}, {"A1(C2,B2)", "BCBC", 5, "C"}, {"A1(C2,B2)", "BCBC", 100, "C"}, {"A1(B2,C2)", "BCBC", 4, ""},
		// Both cost 11, but D takes 11 and B, which is ahead, 12.
		{"A1(B5,D5(E1))", "BDBD", 12, "D"}, {"A1(B5,D5(E1))", "BDBD", 11, "D"}, {"A1(B5(E1),D5)", "BDBD", 12, "B"}, {"A1(B5(E1),D5)", "BDBD", 11, "B"}, {"A1(B5(E1),D5)", "BDBD", 10, ""},
		// It costs the same if nothing stays, which takes the least room.
		{"A1(B2,C2)", "BC", 5, ""}, {"A1(B2,C2)", "CB", 100, ""}, {"A1(B2(C2))", "BCBC", 100, ""},
	} {
		tree := mustParse(t, c.text)
		checkBest(t, tree, c.trace, c.room, c.want, true)
		tellPins(t, tree, c.trace)
	}
}

// unpinned returns a tree without the pins, whose children are those of the next segment above that is left, which also stands
// for them in the trace.
func unpinned(tree []impl.Segment, trace, pins string) ([]impl.Segment, string) {
	var left []impl.Segment
	places := map[int]int{-1: -1}
	for i, s := range tree {
		above := s.Parent
		for above >= 0 && strings.Contains(pins, tree[above].Name) {
			above = tree[above].Parent
		}
		if strings.Contains(pins, s.Name) {
			trace = strings.ReplaceAll(trace, s.Name, tree[above].Name)
			continue
		}
		places[i] = len(left)
		left = append(left, impl.Segment{Name: s.Name, Size: s.Size, Parent: places[above]})
	}
	return left, trace
}

// checkUnpinned checks that all but the pins is loaded, and lies, as if these were no segments at all.
func checkUnpinned(t *testing.T, tree []impl.Segment, trace, pins string) {
	t.Helper()
	left, others := unpinned(tree, trace, pins)
	loads, _ := impl.LoadsIn(left, others)
	want := pinning{loads[:1] + pins + loads[1:], impl.RunCost(left, others) + costIn(tree, pins), impl.RoomOf(left) + costIn(tree, pins)}
	checkPinned(t, tree, trace, pins, want)
}

func TestPinsWithinAllTrees(t *testing.T) {
	for n := 1; n <= 4; n++ {
		for _, parents := range preorders(n) {
			for _, tree := range treesOfShape(parents) {
				names, _ := impl.NamesOf(tree)
				for _, trace := range tracesOver(names, 4) {
					tellPins(t, tree, trace)
				}
			}
		}
	}
	for n := 5; n <= 6; n++ {
		for _, parents := range preorders(n) {
			tree := treesOfShape(parents)[2]
			names, _ := impl.NamesOf(tree)
			tellPins(t, tree, names+nested(names)+names[2:5]+names[1:])
		}
	}
}

// TestPinsWithinLargestTrees checks trees of eight segments, of all shapes, with some of their pins and in some of their rooms.
func TestPinsWithinLargestTrees(t *testing.T) {
	var c chooser
	for i, parents := range preorders(impl.MaxSegments) {
		for _, tree := range treesOfShape(parents) {
			all := pinsIn(tree)
			trace := []string{"A(BC(DE)F(G(H)))BH(G(F)E)DC", nested("HGFEDCBA") + nested("AACCAACC") + "EDG", strings.Repeat("ABCDEFGH", 10), "B(D)E(F(G))CHCHBDA"}[c.below(4)]
			for range 10 {
				pins := all[c.below(len(all))]
				tellPinned(t, tree, trace, pins)
				checkUnpinned(t, tree, trace, pins)
			}
		}
		if i%4 == 0 {
			tree := treesOfShape(parents)[2]
			tellChosen(t, tree, "B(D)E(F(G))CHCHBDA", impl.RoomOf(tree)+c.below(impl.SavedRoom(tree)+1))
		}
	}
	for _, text := range []string{"H99(G98,F97,E96,D95,C94,B93,A92)", "D4(H3(A1,B1(C9)),E5(F1,G2))", "A1(B1,C1,D1,E1,F1,G1,H1)", "H1(G1(F1(E1(D1(C1(B1(A1)))))))"} {
		tree := mustParse(t, text)
		if all := pinsIn(tree); len(all) != 128 || all[1] != tree[1].Name || all[127] != tree[7].Name {
			t.Fatalf("%s has %d pins: %q", text, len(all), all)
		}
		for _, pins := range pinsIn(tree) {
			tellPinned(t, tree, "ABCDEFGHGFEDCBA(E(B(H)))", pins)
		}
		tellChosen(t, tree, "ABCDEFGHGFEDCBA(E(B(H)))", roomsOf(tree)[:min(12, len(roomsOf(tree)))]...)
	}
}

// TestRunsWithoutPins checks pins of all trees of up to five segments against runs in trees without these segments.
func TestRunsWithoutPins(t *testing.T) {
	for n := 1; n <= 5; n++ {
		for _, parents := range preorders(n) {
			for _, tree := range treesOfShape(parents) {
				names, _ := impl.NamesOf(tree)
				last, first := names[n-1:], names[:1]
				for _, trace := range []string{"", names, names + nested(names), nested(names+first) + last + names, last + "(" + names + last + "(" + names + "))"} {
					for _, pins := range pinsIn(tree) {
						checkUnpinned(t, tree, trace, pins)
					}
				}
			}
		}
	}
}

// TestPinsOfNoneAndOfAll checks pins against chapters 1, 2 and 5.
func TestPinsOfNoneAndOfAll(t *testing.T) {
	for n := 1; n <= 6; n++ {
		for _, parents := range preorders(n) {
			for _, tree := range treesOfShape(parents) {
				names, _ := impl.NamesOf(tree)
				trace := nested(names) + names + names
				loads, _ := impl.LoadsIn(tree, trace)
				checkPinned(t, tree, trace, "", pinning{loads, impl.RunCost(tree, trace), impl.RoomOf(tree)})
				checkPinned(t, tree, trace, names[1:], pinning{names, impl.TotalSize(tree), impl.TotalSize(tree)})
			}
		}
	}
}

// TestMorePinsTakeNoLessRoom checks that room which is enough for pins is enough for fewer of them.
func TestMorePinsTakeNoLessRoom(t *testing.T) {
	for _, text := range []string{"A4(B3,C5(D1,E2))", "D4(H3(A1,B1(C9)),E5(F1,G2))", "A1(B99(C1,D50),E98(F2))"} {
		tree := mustParse(t, text)
		for _, pins := range pinsIn(tree) {
			for i := range len(pins) {
				if fewer := pins[:i] + pins[i+1:]; impl.PinRoom(tree, fewer) > impl.PinRoom(tree, pins) {
					t.Errorf("%s: %q takes more than %q", text, fewer, pins)
				}
			}
		}
	}
}

// TestPinsInLongestTraces checks traces of 80 bytes and of eight calls within each other, and ones of more.
func TestPinsInLongestTraces(t *testing.T) {
	tree := mustParse(t, "A4(B3,C5(D1,E2))")
	checkPinnedRows(t, tree, []pinnedRow{
		{strings.Repeat("BC", 40), "", pinning{"A" + strings.Repeat("BC", 40), 324, 11}}, {strings.Repeat("BC", 40), "B", pinning{"ABC", 12, 14}}, {strings.Repeat("BC", 40), "DE", pinning{"ADE" + strings.Repeat("BC", 40), 327, 12}},
		{strings.Repeat("DE", 40), "C", pinning{"AC" + strings.Repeat("DE", 40), 129, 12}}, {strings.Repeat("DE", 40), "B", pinning{"ABC" + strings.Repeat("DE", 40), 132, 14}}, {strings.Repeat("DE", 40), "E", pinning{"AECD", 12, 12}},
		{strings.Repeat("B(D)", 20), "C", pinning{"AC" + strings.Repeat("BD", 20) + "B", 92, 12}}, {strings.Repeat("B(D)", 20), "D", pinning{"AD" + strings.Repeat("BC", 20) + "B", 168, 12}}, {strings.Repeat("B(D)", 20), "BD", pinning{"ABDC", 13, 15}},
		{"B(" + strings.Repeat("D", 77) + ")", "CD", pinning{"ACDB", 13, 13}}, {nested("BDBDBDBD"), "D", pinning{"AD" + strings.Repeat("BC", 7) + "B", 64, 12}}, {nested("BDBDBDBD"), "C", pinning{"AC" + strings.Repeat("BD", 7) + "B", 40, 12}},
	})
	for _, trace := range []string{
		strings.Repeat("B", 81), strings.Repeat("BC", 41), strings.Repeat("B(D)", 20) + "B", "B(" + strings.Repeat("D", 78) + ")", strings.Repeat("B", 1000000), strings.Repeat("B(", 1000000), nested("BBBBBBBBB"), "C" + nested("BBBBBBBBB"),
	} {
		checkNothingStays(t, tree, trace)
	}
}

func TestPinsInTextsOfNoTrace(t *testing.T) {
	tree := mustParse(t, "A4(B3,C5(D1,E2))")
	for _, trace := range textsOfNoTrace() {
		checkNothingStays(t, tree, trace)
	}
	for _, pins := range pinsIn(tree) {
		for _, trace := range []string{"F", "B(", "B()", "b", " "} {
			checkNoPinnedRun(t, tree, trace, pins)
		}
	}
	// What stays may be named by a trace only if it is a segment.
	checkNothingStays(t, mustParse(t, "A1(B1)"), "C")
	checkNothingStays(t, mustParse(t, "A1"), "B")
}

// TestTextsOfPins checks all texts of up to so many of some bytes: those of segments that can stay are pins, and no others.
func TestTextsOfPins(t *testing.T) {
	for _, c := range []struct {
		text, bytes string
		n           int
	}{{"A4(B3,C5(D1))", "ABCDE", 5}, {"C2(B1,A3)", "ABCa- ", 4}, {"B7", "AB-", 4}, {"A1(C1(B1))", "ABC", 6}} {
		tree := mustParse(t, c.text)
		valid := pinsIn(tree)
		for _, pins := range textsOver(c.bytes, c.n) {
			if slices.Contains(valid, pins) {
				tellPinned(t, tree, "", pins)
			} else {
				checkNotPinned(t, tree, pins)
			}
		}
	}
}

func TestTextsOfNoPins(t *testing.T) {
	tree := mustParse(t, "A4(B3,C5(D1,E2))")
	for _, pins := range []string{
		"A", "AA", "AB", "BA", "ABC", "ABCDE", "BCA", "BACDE", "BB", "BBC", "BCB", "BCC", "BCDEE", "BBCDE", "BCDED", "BCDEB", "EE", "CB", "DC", "ED", "EDCB", "BDC", "CBDE", "BCED",
		"F", "BF", "FB", "BCDEF", "G", "H", "BH", "I", "@", "b", "bc", "Bc", " ", "-", " B", "B ", "B C", "B,C", "<B>", "(", "(B)", "B(D)", "B3", "3", "B\n", "B\x00", "\x00", "\x00B", "\xff", "B\xff", "é", "Ｂ",
		strings.Repeat("B", 81), strings.Repeat("BCDE", 100000), strings.Repeat(" ", 1000), "A4(B3,C5(D1,E2))",
	} {
		checkNotPinned(t, tree, pins)
	}
	checkNotPinned(t, mustParse(t, "B4(A3,C5)"), "B")
	checkNotPinned(t, mustParse(t, "B4(A3,C5)"), "CA")
	checkNotPinned(t, mustParse(t, "B4(C3,A5)"), "AC")
	tellPinned(t, mustParse(t, "B4(C3,A5)"), "AB(C)", "CA")
}

func TestPinsOfInvalidTrees(t *testing.T) {
	for _, tree := range invalidTrees() {
		for _, pins := range []string{"", "A", "B", "C", "AC", "BC", "CA", "I", "\x00"} {
			checkNotPinned(t, tree, pins)
		}
		for _, trace := range []string{"", "A", "B", "B(A)C", "I", "()"} {
			checkNothingStays(t, tree, trace)
		}
		for _, room := range []int{math.MinInt, -1, 0, 6, 100, math.MaxInt} {
			if all, ok := impl.AllPins(tree, room); len(all) != 0 || ok {
				t.Errorf("AllPins(%v, %d) = %q, %v", tree, room, all, ok)
			}
		}
	}
}

func TestPinsChangeNoTree(t *testing.T) {
	row := mustParse(t, "A4(B3,C5(D1,E2),F1)")
	kept := slices.Clone(row)
	tellPins(t, row[:5], "B(D)C(B(E)E)")
	if !slices.Equal(row, kept) {
		t.Errorf("a function changed its argument to %v", row)
	}
}

func TestPinsShareNothing(t *testing.T) {
	tree := mustParse(t, "A4(B3,C5(D1,E2))")
	one, _ := impl.AllPins(tree, 14)
	two, _ := impl.AllPins(tree, 14)
	want := slices.Clone(one)
	clear(two[:cap(two)])
	if !slices.Equal(one, want) {
		t.Errorf("a change of one result changes another one to %q", one)
	}
	checkAllPins(t, tree, 14, want)
}

// TestBestPinsSideBySide checks that pins found at the same time, again and again, are those found alone.
func TestBestPinsSideBySide(t *testing.T) {
	var told sync.WaitGroup
	for _, c := range []struct {
		text, trace string
		room        int
		want        string
	}{
		{"A1(B1,C1,D1,E1,F1,G1,H1)", "BCDEFGHBCDEFGH", 100, "BCDEFG"}, {"A1(B1,C1,D1,E1,F1,G1,H1)", "BCBC", 100, "B"}, {"A1(H1,G1,F1,E1,D1,C1,B1)", "BCBC", 100, "C"},
		{"A1(B5,D5(E1))", "BDBD", 12, "D"}, {"A4(B3(D1),C5,E2)", "BCBC", 12, "B"}, {"A1(B1,C1,D1,E1,F1,G1,H1)", "", 100, ""},
	} {
		tree := mustParse(t, c.text)
		for range 50 {
			told.Go(func() {
				if best, ok := impl.BestPins(tree, c.trace, c.room); best != c.want || !ok {
					t.Errorf("BestPins(%s, %q, %d) = %q, %v, not %q", c.text, c.trace, c.room, best, ok, c.want)
				}
			})
		}
	}
	told.Wait()
}
