package tests

import (
	"fmt"
	"math"
	"regexp"
	"slices"
	"strconv"
	"strings"
	"sync"
	"testing"

	"loop.example/segmentrooms/impl"
)

// aNumber is the pattern of a number from 0 on of at most 17 digits.
const aNumber = `(?:0|[1-9][0-9]{0,16})`

// A memory is what an interpreter has between two lines.
type memory struct {
	tree  []impl.Segment
	trace string
	pairs []string
}

// A deskRow is a line of the document's table: the pattern of all of it, and what is told of it, `no` where it changes nothing.
// It gets the memory, which it may change, and what the groups of the pattern stand for.
type deskRow struct {
	pattern string
	tell    func(m *memory, a, b string) string
}

// An interpreter is the second reckoning of scripts. It goes by the patterns of whole lines, not by words.
type interpreter struct {
	rows     []*regexp.Regexp
	tellers  []func(m *memory, a, b string) string
	withRest *regexp.Regexp
}

func newMemory() memory {
	return memory{tree: []impl.Segment{{Name: "A", Size: 1, Parent: -1}}}
}

func newInterpreter() interpreter {
	in := interpreter{withRest: regexp.MustCompile(`^(tree|merge|up|sub|prune|size|trace|without|order|pairs|lies|path|need|pins|pin|left) `)}
	for _, row := range slices.Concat(changingRows(), tellingRows(), askingRows()) {
		in.rows = append(in.rows, regexp.MustCompile(`(?s)^`+row.pattern+`$`))
		in.tellers = append(in.tellers, row.tell)
	}
	return in
}

// answer returns what is told of a line, and what is in the memory behind it.
func (in interpreter) answer(m memory, line string) (string, memory) {
	for i, row := range in.rows {
		if parts := row.FindStringSubmatch(line); parts != nil {
			changed := m
			parts = append(parts, "", "")
			if told := in.tellers[i](&changed, parts[1], parts[2]); told != "no" {
				return told, changed
			}
			return "no", m
		}
	}
	if in.withRest.MatchString(line) {
		return "no", m
	}
	return "what", m
}

// run returns the output of a script.
func (in interpreter) run(script string) string {
	if len(script) > 20000 {
		return "long\n"
	}
	out, m := "", newMemory()
	for i, line := range strings.Split(script, "\n") {
		if line == "" {
			continue
		}
		if i > 99 || len(out) > 40000 {
			return out + "full\n"
		}
		var told string
		told, m = in.answer(m, line)
		out += told + "\n"
	}
	return out
}

// numbersTold returns the text of numbers, as the package fmt writes them.
func numbersTold(numbers ...int) string {
	return toldOrNone(strings.Trim(fmt.Sprint(numbers), "[]"))
}

func toldOrNone(text string) string {
	if text == "" {
		return "-"
	}
	return text
}

// toldIf returns texts with single spaces between them, and `no` if there are none.
func toldIf(ok bool, texts ...string) string {
	if !ok {
		return "no"
	}
	return toldOrNone(strings.Join(texts, " "))
}

// indicesTold returns the numbers that a text tells that fits their pattern.
func indicesTold(text string) []int {
	var indices []int
	for _, part := range strings.Fields(strings.Trim(text, "-")) {
		index, _ := strconv.Atoi(part)
		indices = append(indices, index)
	}
	return indices
}

// plant puts a tree into a memory.
func (m *memory) plant(tree []impl.Segment, ok bool) string {
	if !ok {
		return "no"
	}
	m.tree = tree
	keepsTrace, keepsPairs := impl.TraceValid(tree, m.trace), impl.GraphValid(tree, m.pairs)
	if !(keepsTrace && keepsPairs) {
		m.trace, m.pairs = "", []string{}
	}
	return impl.FormatTree(m.tree)
}

// follow puts a trace into a memory.
func (m *memory) follow(trace string, ok bool) string {
	m.trace = trace
	return toldIf(ok, trace)
}

// allow puts pairs into a memory.
func (m *memory) allow(pairs []string) string {
	m.pairs = pairs
	return toldIf(impl.GraphValid(m.tree, pairs), pairs...)
}

// changingRows returns the rows of the table that have an effect.
func changingRows() []deskRow {
	return []deskRow{
		{`tree (.*)`, func(m *memory, a, b string) string { return m.plant(impl.ParseTree(a)) }},
		{`flat`, func(m *memory, a, b string) string { return m.plant(impl.FlatTree(m.tree)) }},
		{`chain`, func(m *memory, a, b string) string { return m.plant(impl.ChainTree(m.tree)) }},
		{`build`, func(m *memory, a, b string) string { return m.plant(impl.BuildTree(m.tree, m.pairs)) }},
		{`merge ([A-H])`, func(m *memory, a, b string) string { return m.plant(impl.MergeIn(m.tree, a)) }},
		{`up ([A-H])`, func(m *memory, a, b string) string { return m.plant(impl.MoveUp(m.tree, a)) }},
		{`sub ([A-H])`, func(m *memory, a, b string) string { return m.plant(impl.SubTree(m.tree, a)) }},
		{`prune ([A-H])`, func(m *memory, a, b string) string { return m.plant(impl.Prune(m.tree, a)) }},
		{`size ([A-H]) (` + aNumber + `)`, func(m *memory, a, b string) string { return m.plant(impl.Resize(m.tree, a, indicesTold(b)[0])) }},
		{`trace (.*)`, func(m *memory, a, b string) string { return m.follow(a, impl.TraceValid(m.tree, a)) }},
		{`twice`, func(m *memory, a, b string) string { return m.follow(impl.Twice(m.tree, m.trace)) }},
		{`without ([A-H])`, func(m *memory, a, b string) string { return m.follow(impl.Without(m.tree, m.trace, a)) }},
		{`order (-|` + aNumber + `(?: ` + aNumber + `)*)`, func(m *memory, a, b string) string {
			return m.follow(impl.InOrder(m.tree, m.trace, indicesTold(a)))
		}},
		{`sort`, func(m *memory, a, b string) string {
			sorted, _ := impl.SortedOrder(m.tree, m.trace)
			return m.follow(impl.InOrder(m.tree, m.trace, sorted))
		}},
		{`pairs ([A-H][A-H](?: [A-H][A-H])*)`, func(m *memory, a, b string) string { return m.allow(strings.Fields(a)) }},
		{`own`, func(m *memory, a, b string) string {
			own, _ := impl.PairsOf(m.tree, m.trace)
			return m.allow(own)
		}},
	}
}

// tellingRows returns the rows of the table that tell of the tree and of the trace.
func tellingRows() []deskRow {
	return []deskRow{
		{`tree`, func(m *memory, a, b string) string { return impl.FormatTree(m.tree) }},
		{`trace`, func(m *memory, a, b string) string { return toldOrNone(m.trace) }},
		{`map`, func(m *memory, a, b string) string {
			places, _ := impl.MapOf(m.tree)
			return fmt.Sprintf("%d %d : %s", impl.RoomOf(m.tree), impl.SavedRoom(m.tree), places)
		}},
		{`run`, func(m *memory, a, b string) string {
			steps, _ := impl.StepsOf(m.tree, m.trace)
			return impl.FormatSteps(steps)
		}},
		{`loads`, func(m *memory, a, b string) string {
			counts, _ := impl.LoadCounts(m.tree, m.trace)
			return numbersTold(counts...)
		}},
		{`costs`, func(m *memory, a, b string) string {
			return numbersTold(impl.RunCost(m.tree, m.trace), impl.IdealCost(m.tree, m.trace), impl.PeakIn(m.tree, m.trace), impl.CountCalls(m.tree, m.trace), impl.DepthOf(m.tree, m.trace))
		}},
		{`kinds`, func(m *memory, a, b string) string {
			counts, _ := impl.KindCounts(m.tree, m.trace)
			return fmt.Sprint(numbersTold(counts...), " ", impl.IsSafe(m.tree, m.trace))
		}},
		{`lost`, func(m *memory, a, b string) string {
			lost, ok := impl.LostIn(m.tree, m.trace)
			return toldIf(ok, lost)
		}},
		{`chains`, func(m *memory, a, b string) string {
			chains, ok := impl.ChainsOf(m.tree, m.trace)
			return toldIf(ok, chains...)
		}},
		{`unsafe`, func(m *memory, a, b string) string {
			chains, ok := impl.UnsafeChains(m.tree, m.trace)
			return toldIf(ok, chains...)
		}},
		{`calls`, func(m *memory, a, b string) string {
			calls, ok := impl.TopCalls(m.tree, m.trace)
			return toldIf(ok, calls...)
		}},
		{`orders`, func(m *memory, a, b string) string {
			best, ok := impl.BestOrder(m.tree, m.trace)
			least, most, _ := impl.OrderCosts(m.tree, m.trace)
			return toldIf(ok, numbersTold(best...), ":", numbersTold(least, most))
		}},
	}
}

// askingRows returns the rows of the table that tell of the pairs, and those that tell of something in the line.
func askingRows() []deskRow {
	return []deskRow{
		{`pairs`, func(m *memory, a, b string) string { return toldIf(true, m.pairs...) }},
		{`together`, func(m *memory, a, b string) string {
			together, ok := impl.TogetherIn(m.tree, m.pairs)
			return toldIf(ok, together...)
		}},
		{`clashes`, func(m *memory, a, b string) string {
			clashes, ok := impl.ClashesOf(m.tree, m.pairs)
			return toldIf(ok, clashes...)
		}},
		{`show`, func(m *memory, a, b string) string {
			clash, ok := impl.ShowClash(m.tree, m.pairs)
			return toldIf(ok, clash)
		}},
		{`truths`, func(m *memory, a, b string) string {
			return fmt.Sprint(impl.GraphSafe(m.tree, m.pairs), impl.HasRings(m.tree, m.pairs), impl.KeepsTo(m.tree, m.trace, m.pairs))
		}},
		{`least`, func(m *memory, a, b string) string {
			chain, ok := impl.HeaviestChain(m.tree, m.pairs)
			return toldIf(ok, chain, numbersTold(impl.LeastRoom(m.tree, m.pairs)))
		}},
		{`lies (` + aNumber + `)`, func(m *memory, a, b string) string {
			names, ok := impl.LiesAt(m.tree, indicesTold(a)[0])
			return toldIf(ok, names)
		}},
		{`path ([A-H])`, func(m *memory, a, b string) string {
			path, ok := impl.PathOf(m.tree, a)
			children, _ := impl.ChildrenOf(m.tree, a)
			return toldIf(ok, path, toldOrNone(children))
		}},
		{`need (-|[A-H]+) ([A-H])`, func(m *memory, a, b string) string {
			state, load, ok := impl.NeedOf(m.tree, strings.Trim(a, "-"), b)
			return toldIf(ok, state, toldOrNone(load))
		}},
		{`pins (` + aNumber + `)`, func(m *memory, a, b string) string {
			pins, ok := impl.BestPins(m.tree, m.trace, indicesTold(a)[0])
			return toldIf(ok, toldOrNone(pins), numbersTold(impl.PinCost(m.tree, m.trace, pins), impl.PinRoom(m.tree, pins)))
		}},
		{`pin ([A-H]*)`, func(m *memory, a, b string) string {
			cost, room := impl.PinCost(m.tree, m.trace, a), impl.PinRoom(m.tree, a)
			return toldIf(cost != -1, numbersTold(cost, room))
		}},
		{`left ([A-H])`, func(m *memory, a, b string) string {
			left := impl.RoomLeft(m.tree, a)
			return toldIf(left != -1, numbersTold(left))
		}},
	}
}

// checkScript checks the output of a script.
func checkScript(t *testing.T, script, want string) {
	t.Helper()
	if got := impl.RunScript(script); got != want {
		t.Errorf("RunScript(%.300q) = %.1000q, not %.1000q", script, got, want)
	}
}

// checkTalk checks the output of a script, and of each beginning of it. A line of the talk is one of the script, ` => ` and its output.
func checkTalk(t *testing.T, talk string) {
	t.Helper()
	script, want := "", ""
	for row := range strings.SplitSeq(strings.TrimSpace(talk), "\n") {
		line, told, ok := strings.Cut(strings.TrimLeft(row, "\t"), " => ")
		if !ok {
			t.Fatalf("%q is no row of a talk", row)
		}
		script, want = script+line, want+told+"\n"
		for _, end := range []string{"", "\n"} {
			if got := impl.RunScript(script + end); got != want {
				t.Fatalf("the script of %q ends with %.300q, not %.300q", line, got[min(len(got), len(want)-len(told)-1):], told)
			}
		}
		script += "\n"
	}
}

// checkAnswer checks what is told of a line behind a script, and that it changes nothing.
func checkAnswer(t *testing.T, script, line, want string) {
	t.Helper()
	shown := "tree\ntrace\npairs\n"
	before := impl.RunScript(script)
	kept := strings.TrimPrefix(impl.RunScript(script+shown), before)
	checkScript(t, script+line+"\n"+shown, before+want+"\n"+kept)
}

// wordsAlone returns the words of the table that can be a line alone, but have no rest.
func wordsAlone() []string {
	return strings.Fields("flat chain build twice sort own map run loads costs kinds lost chains unsafe together clashes show truths least calls orders")
}

// wordsWithRest returns the words of the table that need a rest.
func wordsWithRest() []string {
	return strings.Fields("merge up sub prune size without order lies path need pins pin left")
}

// wordsWithBoth returns the words of the table that may have a rest or be alone.
func wordsWithBoth() []string {
	return strings.Fields("tree trace pairs")
}

// deskScript is a script behind which there are a tree, a trace and pairs.
const deskScript = "tree A4(B3,C5(D1,E2))\ntrace B(D)C\nown\n"

func TestScriptOfTheDocument(t *testing.T) {
	checkTalk(t, `
		tree A4(B3,C5(D1,E2)) => A4(B3,C5(D1,E2))
		map => 11 4 : A0-3 B4-6 C4-8 D9-9 E9-10
		path C => AC DE
		lies 9 => DE
		need ACD B => AB B
		need - E => ACE ACE
		trace B(D)C => B(D)C
		run => A+A B+B D+CD B+B A C+C A
		costs => 21 13 10 3 2
		loads => 1 2 2 1 0
		kinds => 0 2 1 false
		lost => B
		chains => AB ABD AC
		unsafe => ABD
		own => AB AC BD
		together => AB AC AD BD
		clashes => BD
		show => B(D)
		truths => false false true
		least => AC 9
		build => A4(B3(D1),C5,E2)
		truths => true false true
		run => A+A B+B D+D B A C+C A
		costs => 13 13 9 3 2
		orders => 0 1 : 13 13
		calls => B(D) C
		twice => B(D)CB(D)C
		costs => 22 13 9 6 2
		sort => B(D)B(D)CC
		costs => 13 13 9 6 2
		trace BCBC => BCBC
		orders => 0 2 1 3 : 12 20
		pins 12 => B 12 12
		pin C => 12 13
		left E => 3
		size E 5 => A4(B3(D1),C5,E5)
		merge D => A4(B4,C5,E5)
		trace => -
		chain => A4(B4(C5(E5)))
		up E => A4(B4(C5,E5))
		sub B => B4(C5,E5)
		flat => B4(C5,E5)
		prune C => B4(E5)
		pairs BE => BE
		foo => what
	`)
}

// TestScriptBeforeAnyTree checks each line of the table with the tree, the trace and the pairs that there are at first.
func TestScriptBeforeAnyTree(t *testing.T) {
	for line, want := range map[string]string{
		"tree": "A1", "flat": "A1", "chain": "A1", "build": "A1", "merge A": "no", "up A": "no", "sub A": "A1", "prune A": "no", "size A 99": "A99",
		"trace": "-", "trace ": "-", "trace A(A)": "A(A)", "twice": "-", "without A": "-", "order -": "-", "sort": "-", "pairs": "-", "pairs AA": "AA", "own": "-",
		"map": "1 0 : A0-0", "lies 0": "A", "lies 1": "no", "path A": "A -", "need - A": "A A", "need A A": "A -", "run": "A+A", "loads": "1", "costs": "1 1 1 0 0",
		"kinds": "0 0 0 true", "lost": "-", "chains": "-", "unsafe": "-", "together": "-", "clashes": "-", "show": "no", "truths": "true false true", "least": "A 1",
		"pins 1": "- 1 1", "pins 0": "no", "pin ": "1 1", "pin A": "no", "left A": "0", "calls": "-", "orders": "- : 1 1", "tree B2": "B2", "merge B": "no",
	} {
		checkTalk(t, line+" => "+want)
	}
}

// TestLinesOfTheTable checks all lines but those that change the tree, with a tree whose names are not in the order of the alphabet.
func TestLinesOfTheTable(t *testing.T) {
	checkTalk(t, `
		tree C9(A2(H1),B7) => C9(A2(H1),B7)
		map => 16 3 : C0-8 A9-10 H11-11 B9-15
		lies 0 => C
		lies 8 => C
		lies 9 => AB
		lies 11 => HB
		lies 15 => B
		lies 16 => no
		path C => C AB
		path A => CA H
		path H => CAH -
		path D => no
		need - H => CAH CAH
		need CAH B => CB B
		need CB C => CB -
		need CA H => CAH H
		need C C => C -
		need CH A => no
		need - D => no
		trace A(HB)B => A(HB)B
		run => C+C A+A H+H A B+B A+A C B+B C
		loads => 1 2 1 2
		costs => 28 19 16 4 2
		kinds => 0 3 1 false
		lost => A
		chains => CA CAH CAB CB
		unsafe => CAB
		calls => A(HB) B
		pins 15 => no
		pins 16 => - 28 16
		pins 17 => - 28 16
		pins 18 => A 19 18
		pins 99999999999999999 => A 19 18
		pin  => 28 16
		pin A => 19 18
		pin H => 28 17
		pin AHB => 19 19
		pin HA => no
		pin C => no
		left C => 0
		left A => 4
		left H => 4
		left B => 0
		pairs => -
		truths => true false false
		least => C 16
		own => AB AH CA CB
		pairs => AB AH CA CB
		together => AB AC AH BC CH
		clashes => AB
		show => A(B)
		truths => false false true
		least => CAB 18
		pairs AA CA => AA CA
		truths => true true false
		show => no
		clashes => -
		together => AC
	`)
}

// TestLinesThatChangeTheTree checks lines that make another tree of one, with a trace and pairs that this tree has as well.
func TestLinesThatChangeTheTree(t *testing.T) {
	checkTalk(t, `
		tree C9(A2(H1),B7) => C9(A2(H1),B7)
		trace A(HB)B => A(HB)B
		pairs AB AH CA CB => AB AH CA CB
		build => C9(A2(H1,B7))
		truths => true false true
		run => C+C A+A H+H A B+B A C B C
		costs => 19 19 18 4 2
		up B => C9(A2(H1),B7)
		up H => C9(A2,H1,B7)
		up H => no
		chain => C9(A2(H1(B7)))
		flat => C9(A2,H1,B7)
		size H 99 => C9(A2,H99,B7)
		size H 100 => no
		size H 0 => no
		size D 1 => no
		merge H => no
		size H 90 => C9(A2,H90,B7)
		trace => A(HB)B
		pairs => AB AH CA CB
		sub C => C9(A2,H90,B7)
		pairs => AB AH CA CB
		merge H => C99(A2,B7)
		trace => -
		pairs => -
		merge A => no
		sub D => no
		prune C => no
		prune A => C99(B7)
		sub B => B7
		tree => B7
	`)
}

// TestLinesThatChangeTheTrace checks lines that make another trace of one.
func TestLinesThatChangeTheTrace(t *testing.T) {
	checkTalk(t, `
		tree C9(A2(H1,B7)) => C9(A2(H1,B7))
		trace A(HB)B => A(HB)B
		orders => 0 1 : 19 26
		order 1 0 => BA(HB)
		trace => BA(HB)
		order 0 1 => BA(HB)
		sort => A(HB)B
		twice => A(HB)BA(HB)B
		orders => 0 1 2 3 : 27 34
		order 0 1 2 => no
		order 0 2 1 3 => A(HB)A(HB)BB
		without H => A(B)A(B)BB
		without D => no
		twice => A(B)A(B)BBA(B)A(B)BB
		orders => no
		calls => A(B) A(B) B B A(B) A(B) B B
		order 7 6 5 4 3 2 1 0 => BBA(B)A(B)BBA(B)A(B)
		sort => A(B)A(B)A(B)A(B)BBBB
		twice => A(B)A(B)A(B)A(B)BBBBA(B)A(B)A(B)A(B)BBBB
		twice => A(B)A(B)A(B)A(B)BBBBA(B)A(B)A(B)A(B)BBBBA(B)A(B)A(B)A(B)BBBBA(B)A(B)A(B)A(B)BBBB
		twice => no
		costs => 18 18 18 48 2
		without B => AAAAAAAAAAAAAAAA
		without A => -
		twice => -
		order - => -
		order 0 => no
		calls => -
		orders => - : 9 9
		trace C(C) => C(C)
		trace  => -
	`)
}

// TestTracesThatAnotherTreeDoesNotHave checks when the trace and the pairs are kept: only if the other tree has both.
func TestTracesThatAnotherTreeDoesNotHave(t *testing.T) {
	const tree = "tree A4(B3,C5(D1,E2))\n"
	for _, row := range []struct{ have, line, told, trace, pairs string }{
		{"trace B(D)C\npairs AB AC BD\n", "prune E", "A4(B3,C5(D1))", "B(D)C", "AB AC BD"},
		{"trace B(D)C\npairs AB AC BD\n", "prune D", "A4(B3,C5(E2))", "-", "-"},
		{"trace B(D)C\npairs AB AC BD\n", "merge D", "A4(B3,C6(E2))", "-", "-"},
		{"trace B(D)C\npairs AB AC BD\n", "merge E", "A4(B3,C7(D1))", "B(D)C", "AB AC BD"},
		{"trace B(D)C\npairs AB AC BD\n", "sub C", "C5(D1,E2)", "-", "-"},
		{"trace B(D)C\npairs AB AC BD\n", "tree D1(C1(B1(A1)))", "D1(C1(B1(A1)))", "B(D)C", "AB AC BD"},
		{"trace B(D)C\npairs AB AC BD\n", "tree A4(B3,C5(E2))", "A4(B3,C5(E2))", "-", "-"},
		{"trace B(D)C\npairs AB AC BD\n", "tree F1", "F1", "-", "-"},
		{"trace B(D)C\npairs AB AC BD\n", "tree A4(B3,C5(D1,E2))", "A4(B3,C5(D1,E2))", "B(D)C", "AB AC BD"},
		{"trace B(D)C\npairs AB AC BD\n", "flat", "A4(B3,C5,D1,E2)", "B(D)C", "AB AC BD"},
		{"trace B(D)C\npairs AB AC BD\n", "chain", "A4(B3(C5(D1(E2))))", "B(D)C", "AB AC BD"},
		{"trace B(D)C\npairs AB AC BD\n", "build", "A4(B3(D1),C5,E2)", "B(D)C", "AB AC BD"},
		{"trace B(D)C\npairs AB AC BD\n", "up D", "A4(B3,C5(E2),D1)", "B(D)C", "AB AC BD"},
		{"trace B(D)C\npairs AB AC BD\n", "size D 9", "A4(B3,C5(D9,E2))", "B(D)C", "AB AC BD"},
		// The trace alone, and the pairs alone, which the other tree has or not.
		{"trace B(D)C\n", "prune E", "A4(B3,C5(D1))", "B(D)C", "-"},
		{"trace B(D)C\n", "prune D", "A4(B3,C5(E2))", "-", "-"},
		{"pairs AB AC BD\n", "prune E", "A4(B3,C5(D1))", "-", "AB AC BD"},
		{"pairs AB AC BD\n", "prune D", "A4(B3,C5(E2))", "-", "-"},
		// The trace is one within the other tree, but the pairs are not valid there, and the other way round.
		{"trace B\npairs AB CD\n", "prune C", "A4(B3)", "-", "-"},
		{"trace B\npairs AB\n", "prune C", "A4(B3)", "B", "AB"},
		{"trace CE\npairs AB\n", "prune E", "A4(B3,C5(D1))", "-", "-"},
		{"trace CE\npairs AB CE\n", "sub C", "C5(D1,E2)", "-", "-"},
		{"trace CE\npairs CE\n", "sub C", "C5(D1,E2)", "CE", "CE"},
		{"trace B\npairs BB\n", "sub B", "B3", "B", "BB"},
		{"trace B\npairs AB\n", "sub B", "B3", "-", "-"},
		{"trace A\npairs BB\n", "sub B", "B3", "-", "-"},
	} {
		before := impl.RunScript(tree + row.have)
		checkScript(t, tree+row.have+row.line+"\ntree\ntrace\npairs\n", before+row.told+"\n"+row.told+"\n"+row.trace+"\n"+row.pairs+"\n")
	}
}

// TestNamesThatComeBack checks that what became none stays so when a tree comes that would have had it.
func TestNamesThatComeBack(t *testing.T) {
	checkTalk(t, `
		tree A1(B1,C1) => A1(B1,C1)
		trace BC => BC
		pairs AB => AB
		prune C => A1(B1)
		tree A1(B1,C1) => A1(B1,C1)
		trace => -
		pairs => -
		truths => true false true
		run => A+A
		trace C => C
		tree x => no
		prune A => no
		trace => C
	`)
}

// TestOwnPairs checks that the own pairs, of which there may be too many, are those of the trace.
func TestOwnPairs(t *testing.T) {
	const twenty = "ABCDEFGHB(ABCDEFGH)C(ABCD)"
	const pairs = "AA AB AC AD AE AF AG AH BA BB BC BD BE BF BG BH CA CB CC CD"
	tree := "tree A1(B1,C1,D1,E1,F1,G1,H1)"
	checkTalk(t, strings.Join([]string{
		tree + " => A1(B1,C1,D1,E1,F1,G1,H1)", "trace " + twenty + " => " + twenty, "own => " + pairs, "pairs => " + pairs, "truths => false true true",
		"trace " + twenty + "C(E) => " + twenty + "C(E)", "own => no", "pairs => " + pairs, "truths => false true false",
		"pairs " + pairs + " CE => no", "pairs => " + pairs, "pairs AB => AB", "own => no", "pairs => AB", "pairs " + pairs + " => " + pairs,
		"trace  => -", "own => -", "pairs => -", "trace C(C) => C(C)", "own => AC CC", "trace  => -", "pairs => AC CC",
	}, "\n"))
}

// TestTextsThatAreEmpty checks lines whose rest is empty, which are not the lines without one.
func TestTextsThatAreEmpty(t *testing.T) {
	for _, script := range []string{"", deskScript} {
		for _, word := range wordsAlone() {
			checkAnswer(t, script, word+" ", "what")
		}
		for _, word := range slices.Concat(wordsWithRest(), wordsWithBoth()) {
			if word != "trace" && word != "pin" {
				checkAnswer(t, script, word+" ", "no")
			}
		}
		for _, line := range []string{" ", "  ", " tree", " A", "-", " trace ", "  map"} {
			checkAnswer(t, script, line, "what")
		}
	}
	checkAnswer(t, deskScript, "pin ", "21 11")
	checkScript(t, deskScript+"trace \ntrace\nrun\nown\npairs", "A4(B3,C5(D1,E2))\nB(D)C\nAB AC BD\n-\n-\nA+A\n-\n-\n")
	checkTalk(t, "trace A => A\ntrace  => -\npin  => 1 1\norder - => -")
}

// TestStatesInWhichNoneIsLoaded checks that `-` stands for the state of none, and only for this one.
func TestStatesInWhichNoneIsLoaded(t *testing.T) {
	for rest, want := range map[string]string{
		"- A": "A A", "- B": "AB AB", "- C": "AC AC", "- D": "ACD ACD", "- E": "ACE ACE", "A A": "A -", "A B": "AB B", "A E": "ACE CE", "AB C": "AC C", "ACD E": "ACE E", "ACD C": "ACD -", "ACD A": "ACD -", "ACE B": "AB B",
		" A": "no", "A": "no", "-": "no", "- ": "no", "-  A": "no", " - A": "no", "- A ": "no", "- F": "no", "- -": "no", "- AB": "no", "-A": "no", "-A B": "no", "A- B": "no", "-- A": "no", "- - A": "no", "A ": "no", "A  B": "no", "": "no", " ": "no", "  ": "no", "A A A": "no", "a B": "no", "A b": "no", "CA B": "no", "B A": "no", "AD B": "no", "ABC B": "no", "AB,C": "no", "F A": "no", "A -": "no", "0 A": "no",
	} {
		checkAnswer(t, deskScript, "need "+rest, want)
	}
}

// TestRestsThatAreNotOfTheTable checks rests that are not what the table shows, or for which there is no result.
func TestRestsThatAreNotOfTheTable(t *testing.T) {
	names := []string{" ", "F", "I", "b", "BC", "BB", "B ", " B", "B C", "-", "0", "(", "B\x00", "\xff", "é", "B3", "AB"}
	numbers := []string{" ", "-", "x", "-1", "-0", "+1", "01", "00", " 1", "1 ", "1 1", "1  1", "1.", "1e1", "0x1", "1_0", "١", "A", "1\r", "1\t", "100000000000000000", "9223372036854775808", "18446744073709551616", "18446744073709551617", "-18446744073709551615", "0000000000000000001"}
	for word, rests := range map[string][]string{
		"tree":    {" ", "-", "x", "a4", "A", "A0", "A04", "A100", "A4(", "A4()", "A4(B3", "A4(B3))", "A4(B3) ", " A4(B3)", "A4(B3,B3)", "A4 (B3)", "A4(B3, C5)", "A4,B3", "I1", "A1(B1(C1(D1(E1(F1(G1(H1(A1))))))))"},
		"merge":   append(names, "A"),
		"up":      append(names, "A", "B", "C"),
		"sub":     names,
		"prune":   append(names, "A"),
		"path":    names,
		"left":    names,
		"without": names,
		"size":    {"B", "B ", "5", " 5", " B 5", "B  5", "B 5 ", "5 B", "BC 5", "B5", "B 5 6", "F 5", "b 5", "B 0", "B 100", "B -5", "B +5", "B 05", "B 5.", "B x", "B -", "- 5", "B,5", "B 4294967301", "B 18446744073709551621", "B 99999999999999999", "B 100000000000000000"},
		"trace":   append(textsOfNoTrace(), strings.Repeat("B", 81), nested("BBBBBBBBB"), "B(D)C ", " B(D)C", "B(D) C", "B\r", "AB AC"),
		"order":   {" ", "-", "0", "1", "0 0", "1 1", "0 1 2", "1 0 2", "0 2", "2 0", "0  1", " 0 1", "0 1 ", "01", "00 1", "0 01", "-0 1", "0 -1", "+0 1", "0,1", "0 1 -", "- 0 1", "x", "0 x", "0\t1", "1 100000000000000000", "0 4294967297"},
		"pairs":   {" ", "-", "A", "AB ", " AB", "AB  AC", "AC AB", "AB AB", "AF", "FA", "AB AF", "AB,AC", "ABAC", "ab", "ABC", "AB -", "- AB", "A B", "AB\tAC", "AA AB AC AD AE BA BB BC BD BE CA CB CC CD CE DA DB DC DD DE EA"},
		"lies":    append(numbers, "11", "99", "4294967296", "99999999999999999"),
		"pins":    append(numbers, "0", "1", "10"),
		"pin":     {" ", "A", "F", "b", "CB", "BB", "AB", "B ", " B", "B C", "B,C", "-", "B-", "BCDEF", "0"},
	} {
		for _, rest := range rests {
			if !strings.Contains(rest, "\n") {
				checkAnswer(t, deskScript, word+" "+rest, "no")
			}
		}
	}
}

// TestLinesThatTheTableDoesNotHave checks words that are none of the table, and those of it with a rest or without one where it has them otherwise.
func TestLinesThatTheTableDoesNotHave(t *testing.T) {
	rests := []string{" A", " ", "  ", " 1", " -", " A1", " B(D)C", " AB"}
	for _, script := range []string{"", deskScript} {
		for _, word := range wordsAlone() {
			for _, rest := range rests {
				checkAnswer(t, script, word+rest, "what")
			}
		}
		for _, word := range wordsWithRest() {
			checkAnswer(t, script, word, "what")
		}
		words := slices.Concat(wordsAlone(), wordsWithRest(), wordsWithBoth())
		for _, word := range words {
			for _, line := range []string{" " + word, word + "s", "x" + word, word + "\t", word + "\r", word + "\x00", word + "-", word + word, strings.ToUpper(word), word[:len(word)-1] + "é", word + ",A", word + "\tA", "\t" + word, word + "\u00a0A"} {
				if !slices.Contains(words, line) {
					checkAnswer(t, script, line, "what")
				}
			}
		}
		for _, line := range []string{"foo", "foo ", "foo A", "-", "0", "A", "A1", "no", "what", "full", "long", "B(D)C", ".", "\x00", "\xff", "é", "#", "=>", "name", "names A", "room", "saved", "worst", "gain B", "reach A"} {
			checkAnswer(t, script, line, "what")
		}
	}
}

// TestLinesThatTellChangeNothing checks that lines without an effect leave the tree, the trace and the pairs as they are.
func TestLinesThatTellChangeNothing(t *testing.T) {
	for line, want := range map[string]string{
		"tree": "A4(B3,C5(D1,E2))", "trace": "B(D)C", "pairs": "AB AC BD", "map": "11 4 : A0-3 B4-6 C4-8 D9-9 E9-10", "lies 4": "BC", "path D": "ACD -", "need AB E": "ACE CE", "run": "A+A B+B D+CD B+B A C+C A", "loads": "1 2 2 1 0",
		"costs": "21 13 10 3 2", "kinds": "0 2 1 false", "lost": "B", "chains": "AB ABD AC", "unsafe": "ABD", "together": "AB AC AD BD", "clashes": "BD", "show": "B(D)", "truths": "false false true", "least": "AC 9",
		"pin B": "13 14", "left B": "4", "calls": "B(D) C", "orders": "0 1 : 21 21",
	} {
		checkAnswer(t, deskScript, line, want)
	}
}

func TestTextsOfNumbers(t *testing.T) {
	for _, row := range []struct {
		list []int
		want string
	}{
		{nil, "-"}, {[]int{}, "-"}, {[]int{0}, "0"}, {[]int{-1}, "-1"}, {[]int{0, 0}, "0 0"}, {[]int{7, -7, 10, -100}, "7 -7 10 -100"}, {[]int{99999999999999999, 100000000000000000}, "99999999999999999 100000000000000000"},
		{[]int{math.MaxInt, math.MinInt}, "9223372036854775807 -9223372036854775808"}, {make([]int, 1000), strings.Repeat("0 ", 999) + "0"},
	} {
		if got := impl.FormatNumbers(row.list); got != row.want {
			t.Errorf("FormatNumbers(%.100v) = %.100q", row.list, got)
		}
	}
}

func TestNumbersOfTexts(t *testing.T) {
	for text, want := range map[string][]int{
		"-": nil, "0": {0}, "5": {5}, "9": {9}, "10": {10}, "0 0": {0, 0}, "1 0 3": {1, 0, 3}, "100 20 3": {100, 20, 3}, "10000000000000000": {10000000000000000}, "99999999999999999": {99999999999999999},
		"12345678901234567 0 76543210987654321": {12345678901234567, 0, 76543210987654321}, "4294967296": {1 << 32}, strings.Repeat("7 ", 9999) + "7": slices.Repeat([]int{7}, 10000),
	} {
		if got, ok := impl.ParseNumbers(text); !slices.Equal(got, want) || !ok {
			t.Errorf("ParseNumbers(%.100q) = %.100v, %v", text, got, ok)
		}
	}
}

func TestTextsOfNoNumbers(t *testing.T) {
	for _, text := range []string{
		"", " ", "  ", "--", "- ", " -", "- -", "- 1", "1 -", "1 - 2", "-1", "-0", "1 -1", "-1 1", "+1", "+0", "1 +2", "00", "01", "1 02", "01 2", "0 00", "000000000000000001", "00000000000000000", " 1", "1 ", "1  2", " 1 2", "1 2 ", "  1", "1\t2", "1,2", "1, 2", "1\n", "\n1", "1\n2", "1\r", "\v1",
		"100000000000000000", "999999999999999999", "1 100000000000000000", "123456789012345678 1", "9223372036854775807", "9223372036854775808", "18446744073709551616", "18446744073709551617", "1 18446744073709551616 2", strings.Repeat("9", 1000), strings.Repeat("1", 100000),
		"x", "1x", "x1", "1 x", "a", "1.0", "1.", ".1", "1e3", "0x1", "0b1", "0o7", "1_000", "١", "１", "²", "1\x00", "\x00", "\xff", "é", "NaN", "1 2 3 four", "(1)", "'1'", "−1", "1\u00a02", "1;2", "0-1", "1-", "1--2",
	} {
		if got, ok := impl.ParseNumbers(text); len(got) != 0 || ok {
			t.Errorf("ParseNumbers(%.100q) = %.100v, %v", text, got, ok)
		}
	}
}

// TestShortTextsOfNumbers checks all short texts of a few bytes against the pattern of lists of numbers.
func TestShortTextsOfNumbers(t *testing.T) {
	pattern := regexp.MustCompile(`^(?:-|` + aNumber + `(?: ` + aNumber + `)*)$`)
	for _, text := range textsOver("012 -+", 6) {
		list, ok := impl.ParseNumbers(text)
		if ok != pattern.MatchString(text) {
			t.Errorf("ParseNumbers(%q) = %v, %v", text, list, ok)
		}
		if ok && (impl.FormatNumbers(list) != text || !slices.Equal(list, indicesTold(text))) || !ok && len(list) != 0 {
			t.Errorf("ParseNumbers(%q) = %v, %v", text, list, ok)
		}
	}
	for digits := 1; digits <= 40; digits++ {
		for _, digit := range "19" {
			text := strings.Repeat(string(digit), digits)
			if list, ok := impl.ParseNumbers(text); ok != (digits <= 17) || ok && impl.FormatNumbers(list) != text {
				t.Errorf("ParseNumbers(%q) = %v, %v", text, list, ok)
			}
		}
	}
}

// TestLinesThatEnd checks scripts with and without a newline at the end, and lines that are empty.
func TestLinesThatEnd(t *testing.T) {
	for script, want := range map[string]string{
		"": "", "\n": "", "\n\n\n": "", "tree": "A1\n", "tree\n": "A1\n", "tree\n\n": "A1\n", "\ntree": "A1\n", "\n\ntree\n\n\ntrace\n\n": "A1\n-\n", "tree\ntrace": "A1\n-\n", "x": "what\n", "x\n": "what\n", "tree\r\n": "what\n", "\r\n": "what\n", "tree A2\r\ntree\n": "no\nA1\n",
		"tree A2\ntree": "A2\nA2\n", " \n": "what\n", "\n \n\n ": "what\nwhat\n", "tree A2 tree": "no\n", "tree;trace": "what\n", "tree\x00trace": "what\n", "trace \ntree": "-\nA1\n", "pairs AA\n\npairs": "AA\nAA\n", "tree\ftrace\vtree\u2028tree\u0085": "what\n",
	} {
		checkScript(t, script, want)
	}
}

func TestLongestScripts(t *testing.T) {
	for _, row := range []struct{ script, want string }{
		{strings.Repeat("x", 20000), "what\n"}, {strings.Repeat("x", 20001), "long\n"}, {strings.Repeat("x", 19999) + "\n", "what\n"}, {strings.Repeat("x", 20000) + "\n", "long\n"},
		{strings.Repeat("\n", 20000), ""}, {strings.Repeat("\n", 20001), "long\n"}, {strings.Repeat("\n", 19996) + "tree", "full\n"}, {strings.Repeat("\n", 19997) + "tree", "long\n"},
		{strings.Repeat("é", 10000), "what\n"}, {strings.Repeat("é", 10000) + "x", "long\n"}, {strings.Repeat("\xff", 20000), "what\n"}, {strings.Repeat("\xff", 20001), "long\n"},
		{"tree " + strings.Repeat("x", 19995), "no\n"}, {"tree " + strings.Repeat("x", 19996), "long\n"}, {"tree\ntree " + strings.Repeat("x", 19985) + "\ntree", "A1\nno\nA1\n"}, {"tree\ntree " + strings.Repeat("x", 19986) + "\ntree", "long\n"},
		{strings.Repeat("tree\n", 20) + strings.Repeat("\n", 19900), strings.Repeat("A1\n", 20)}, {strings.Repeat("tree\n", 20) + strings.Repeat("\n", 19901), "long\n"}, {strings.Repeat("tree\n", 1000000), "long\n"},
		{"order " + strings.Repeat("0 ", 9996) + "0", "no\n"}, {"pairs " + strings.Repeat("AA ", 6664) + "AA", "no\n"}, {"trace " + strings.Repeat("A(", 9997), "no\n"}, {"tree " + strings.Repeat("A1(", 6665), "no\n"},
	} {
		checkScript(t, row.script, row.want)
	}
}

func TestScriptsOfManyLines(t *testing.T) {
	for _, row := range []struct{ script, want string }{
		{strings.Repeat("tree\n", 99), strings.Repeat("A1\n", 99)}, {strings.Repeat("tree\n", 100), strings.Repeat("A1\n", 100)}, {strings.Repeat("tree\n", 101), strings.Repeat("A1\n", 100) + "full\n"}, {strings.Repeat("tree\n", 200), strings.Repeat("A1\n", 100) + "full\n"},
		{strings.Repeat("tree\n", 99) + "tree", strings.Repeat("A1\n", 100)}, {strings.Repeat("tree\n", 100) + "tree", strings.Repeat("A1\n", 100) + "full\n"}, {strings.Repeat("tree\n", 100) + "\n\n", strings.Repeat("A1\n", 100)},
		{strings.Repeat("tree\n", 100) + "\n\ntree", strings.Repeat("A1\n", 100) + "full\n"}, {strings.Repeat("\n", 99) + "tree", "A1\n"}, {strings.Repeat("\n", 100) + "tree", "full\n"}, {strings.Repeat("\n", 100), ""}, {strings.Repeat("\n", 101), ""}, {strings.Repeat("\n", 1000), ""},
		{strings.Repeat("\n", 98) + "tree\ntrace", "A1\n-\n"}, {strings.Repeat("\n", 99) + "tree\ntrace", "A1\nfull\n"}, {strings.Repeat("\n", 99) + "tree\n\n\n", "A1\n"}, {"tree\n" + strings.Repeat("\n", 98) + "trace", "A1\n-\n"}, {"tree\n" + strings.Repeat("\n", 99) + "trace", "A1\nfull\n"},
		{strings.Repeat("tree\n\n", 50) + "tree", strings.Repeat("A1\n", 50) + "full\n"}, {strings.Repeat("tree\n\n", 49) + "tree\ntree", strings.Repeat("A1\n", 51)}, {strings.Repeat("x\n", 101), strings.Repeat("what\n", 100) + "full\n"}, {strings.Repeat("tree x\n", 101), strings.Repeat("no\n", 100) + "full\n"},
		{strings.Repeat("x\n", 50) + strings.Repeat("tree x\n", 50) + " ", strings.Repeat("what\n", 50) + strings.Repeat("no\n", 50) + "full\n"}, {strings.Repeat("\n", 100) + "x\nx\nx", "full\n"}, {strings.Repeat("\n", 100) + " ", "full\n"},
	} {
		checkScript(t, row.script, row.want)
	}
}

// TestScriptsOfMuchOutput checks that lines are executed behind an output of 40000 bytes, but not behind one of 40001.
func TestScriptsOfMuchOutput(t *testing.T) {
	trace := "A(A(A(A(A(A(A(" + strings.Repeat("A", 59) + ")))))))"
	chains := "AA AAA AAAA AAAAA AAAAAA AAAAAAA AAAAAAAA" + strings.Repeat(" AAAAAAAAA", 59)
	script := "trace " + trace + "\n" + strings.Repeat("chains\n", 63) + "trace\n"
	out := trace + "\n" + strings.Repeat(chains+"\n", 63) + trace + "\n"
	if len(out) != 39978 {
		t.Fatalf("the output so far has %d bytes", len(out))
	}
	// 22 more bytes make 40000, and 23 make 40001.
	most, mostOut := script+"x\nx\nup A\nup A\nup A\nup A\n", out+"what\nwhat\nno\nno\nno\nno\n"
	over, overOut := script+"x\nup A\nup A\nup A\nup A\nup A\nup A\n", out+"what\nno\nno\nno\nno\nno\nno\n"
	if len(mostOut) != 40000 || len(overOut) != 40001 {
		t.Fatalf("the outputs have %d and %d bytes", len(mostOut), len(overOut))
	}
	for _, row := range []struct{ script, want string }{
		{script, out}, {most, mostOut}, {most + "\n\n", mostOut}, {most + "tree", mostOut + "A1\n"}, {most + "tree\ntree", mostOut + "A1\nfull\n"}, {most + "\nchains\n\nx\ntree", mostOut + chains + "\nfull\n"}, {most + " ", mostOut + "what\n"},
		{over, overOut}, {over + "\n\n", overOut}, {over + "tree", overOut + "full\n"}, {over + "tree\ntree\n", overOut + "full\n"}, {over + "\n\nx\n", overOut + "full\n"}, {over + "tree x", overOut + "full\n"}, {over + " ", overOut + "full\n"},
		{script + strings.Repeat("chains\n", 35), out + chains + "\nfull\n"}, {script + strings.Repeat("chains\n", 36), out + chains + "\nfull\n"},
	} {
		checkScript(t, row.script, row.want)
	}
}

// TestShortScripts checks all short texts of a few bytes, and all short rests of the lines that may have one, against the second reckoning.
func TestShortScripts(t *testing.T) {
	in := newInterpreter()
	for _, script := range textsOver("\n -Atrace", 4) {
		checkScript(t, script, in.run(script))
	}
	for _, word := range slices.Concat(wordsWithRest(), wordsWithBoth()) {
		for _, rest := range textsOver("ABD(0 1-", 3) {
			script := "tree A4(B1,D2)\ntrace BD(A)\nown\n" + word + " " + rest + "\ntree\ntrace\npairs"
			checkScript(t, script, in.run(script))
		}
	}
}

// nameIn returns a name that is mostly one of a tree.
func (c *chooser) nameIn(tree []impl.Segment) string {
	if c.below(8) == 0 {
		return "ABCDEFGHIa"[c.below(10):][:1]
	}
	return tree[c.below(len(tree))].Name
}

// treeText returns the text of some tree.
func (c *chooser) treeText() string {
	shapes := preorders(1 + c.below(impl.MaxSegments))
	trees := treesOfShape(shapes[c.below(len(shapes))])
	return impl.FormatTree(trees[c.below(len(trees))])
}

// orderText returns the text of an order of at most five outermost calls.
func (c *chooser) orderText(calls int) string {
	orders := ordersOver(min(calls, impl.MaxTop))
	return numbersTold(indicesIn(orders[c.below(len(orders))])...)
}

// restFor returns what could stand behind a word for a memory.
func (c *chooser) restFor(m memory, word string) string {
	states, _ := impl.StatesOf(m.tree)
	switch word {
	case "tree":
		return c.treeText()
	case "size":
		return c.nameIn(m.tree) + " " + strconv.Itoa(1+c.below(20))
	case "trace":
		return c.traceWithin(m.tree, c.below(7))
	case "order":
		return c.orderText(len(topIn(m.trace)))
	case "pairs":
		return strings.Join(c.pairsOver(m.tree, 1+c.below(8)), " ")
	case "lies", "pins":
		return strconv.Itoa(c.below(2 + impl.TotalSize(m.tree)))
	case "need":
		return toldOrNone(states[c.below(len(states))]) + " " + c.nameIn(m.tree)
	case "pin":
		all := pinsIn(m.tree)
		return all[c.below(len(all))]
	}
	return c.nameIn(m.tree)
}

// lineFor returns a line for a memory. Some lines are not as the table shows them.
func (c *chooser) lineFor(m memory) string {
	alone, withRest := slices.Concat(wordsAlone(), wordsWithBoth()), slices.Concat(wordsWithRest(), wordsWithBoth(), []string{"trace", "trace", "pairs"})
	line := alone[c.below(len(alone))]
	if c.below(2) == 0 {
		word := withRest[c.below(len(withRest))]
		line = word + " " + c.restFor(m, word)
	}
	at := c.below(len(line))
	switch c.below(24) {
	case 0:
		return line[:at] + line[at+1:]
	case 1:
		return line[:at] + line[at:at+1] + line[at:]
	case 2:
		return line[:at] + " -0A9(\x00\n"[c.below(8):][:1] + line[at:]
	}
	return line
}

// TestScriptsOfAllKinds checks scripts of lines that follow upon each other against the second reckoning.
func TestScriptsOfAllKinds(t *testing.T) {
	in := newInterpreter()
	var c chooser
	told := map[string]int{}
	for range 300 {
		script, m := "", newMemory()
		for range 40 + c.below(70) {
			line := c.lineFor(m)
			for part := range strings.SplitSeq(line, "\n") {
				var answer string
				answer, m = in.answer(m, part)
				told[answer]++
			}
			script += line + "\n"
		}
		checkScript(t, script, in.run(script))
	}
	if len(told) < 3000 || told["no"] < 500 || told["what"] < 200 {
		t.Errorf("only %d different answers, %d of no and %d of what", len(told), told["no"], told["what"])
	}
}

// TestScriptsGoOnFromWhatIsTold checks that a line does the same in a script that has just the tree, the trace and the pairs that are told.
func TestScriptsGoOnFromWhatIsTold(t *testing.T) {
	in := newInterpreter()
	var c chooser
	for range 100 {
		script, m := "", newMemory()
		for range 30 {
			line := strings.ReplaceAll(c.lineFor(m), "\n", " ")
			checkAnswerAnew(t, script, line)
			_, m = in.answer(m, line)
			script += line + "\n"
		}
	}
}

// checkAnswerAnew checks that a line, and what it changes, is told alike behind a script and behind one that says only what is told behind it.
func checkAnswerAnew(t *testing.T, script, line string) {
	t.Helper()
	shown := "tree\ntrace\npairs\n"
	before := impl.RunScript(script)
	has := strings.Split(strings.TrimPrefix(impl.RunScript(script+shown), before), "\n")
	anew := "tree " + has[0] + "\n"
	if has[1] != "-" {
		anew += "trace " + has[1] + "\n"
	}
	if has[2] != "-" {
		anew += "pairs " + has[2] + "\n"
	}
	want := strings.TrimPrefix(impl.RunScript(anew+line+"\n"+shown), impl.RunScript(anew))
	checkScript(t, script+line+"\n"+shown, before+want)
}

// TestScriptsKeepNothing checks that a script is not told otherwise behind others, or at the same time as others.
func TestScriptsKeepNothing(t *testing.T) {
	scripts := []string{deskScript + "run\norders\nbuild\nrun\npins 12", "tree", "trace\npairs", "tree B2(C3)\ntrace C(C)\nown\ncosts\nkinds", "tree x\nfoo\npins 1", strings.Repeat("\n", 20001)}
	wants := []string{
		"A4(B3,C5(D1,E2))\nB(D)C\nAB AC BD\nA+A B+B D+CD B+B A C+C A\n0 1 : 21 21\nA4(B3(D1),C5,E2)\nA+A B+B D+D B A C+C A\n- 13 9\n",
		"A1\n", "-\n-\n", "B2(C3)\nC(C)\nBC CC\n5 5 5 2 2\n1 1 0 true\n", "no\nwhat\n- 1 1\n", "long\n",
	}
	for range 2 {
		for i, script := range scripts {
			checkScript(t, script, wants[i])
		}
	}
	var told sync.WaitGroup
	for i, script := range scripts {
		for range 20 {
			told.Go(func() { checkScript(t, script, wants[i]) })
		}
	}
	told.Wait()
}

func TestNumbersShareNothing(t *testing.T) {
	list := []int{3, 1, 2, 7}
	if text := impl.FormatNumbers(list[:3]); text != "3 1 2" || !slices.Equal(list, []int{3, 1, 2, 7}) {
		t.Errorf("FormatNumbers = %q, and the list is %v", text, list)
	}
	first, _ := impl.ParseNumbers("3 1 2")
	second, _ := impl.ParseNumbers("3 1 2")
	clear(first[:cap(first)])
	if third, ok := impl.ParseNumbers("3 1 2"); !slices.Equal(second, []int{3, 1, 2}) || !slices.Equal(third, second) || !ok {
		t.Errorf("a change of one list changes others to %v and %v", second, third)
	}
}
