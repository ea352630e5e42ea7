package tests

import (
	"math"
	"slices"
	"strings"
	"testing"

	"loop.example/wholechance/impl"
)

// ending is a run as the document tells it: what is drawn, and where that leads.
type ending struct {
	draws  []int
	state  int
	weight int
}

// endings returns all runs of unrolled statements, by the value of each
// variable, those of weight 0 among them, in the order of traces.
func endings(list []impl.Stmt, values [4]int, done ending) []ending {
	if len(list) == 0 {
		done.state = values[0] + 3*values[1] + 9*values[2] + 27*values[3]
		return []ending{done}
	}
	s, rest := list[0], list[1:]
	switch s.Kind {
	case 0:
		sum := s.C
		if s.B != -1 {
			sum += values[s.B]
		}
		values[s.A] = sum % 3
	case 1:
		values[s.A] = (values[s.A] + values[s.B]) % 3
	case 2, 3:
		return drawn(s, rest, values, done)
	case 4:
		done.weight *= s.W[values[s.A]]
	case 5:
		done.weight *= s.W[(values[s.A]+values[s.B])%3]
	case 6:
		if values[s.A] == s.C {
			rest = rest[min(s.B, len(rest)):]
		}
	}
	return endings(rest, values, done)
}

// drawn is endings behind a draw, for each value of it.
func drawn(s impl.Stmt, rest []impl.Stmt, values [4]int, done ending) []ending {
	by := 0
	if s.Kind == 3 {
		by = values[s.B]
	}
	var all []ending
	for v := range 3 {
		values[s.A] = v
		next := ending{draws: rowOf(done.draws, v), weight: done.weight * s.W[(v+by)%3]}
		all = append(all, endings(rest, values, next)...)
	}
	return all
}

func rowOf(draws []int, more ...int) []int {
	return slices.Concat(draws, more)
}

func weighed(all []ending) ([][]int, ending) {
	var rows [][]int
	best := ending{}
	for _, e := range all {
		if e.weight != 0 {
			rows = append(rows, e.draws)
		}
		if e.weight > best.weight {
			best = e
		}
	}
	return rows, best
}

func checkRun(t *testing.T, p []impl.Stmt, draws []int, want ending, ok bool) {
	t.Helper()
	state, weight, gotOk := impl.RunTrace(p, draws)
	if gotOk != ok || state != want.state || weight != want.weight {
		t.Fatalf("RunTrace of %v by %v = %d, %d, %v; want %d, %d, %v", p, draws, state, weight, gotOk, want.state, want.weight, ok)
	}
}

// checkNear runs what is no trace, for it has a value less, one more, or one that is none.
func checkNear(t *testing.T, p []impl.Stmt, draws []int) {
	t.Helper()
	for n := range draws {
		checkRun(t, p, draws[:n], ending{}, false)
	}
	for _, value := range []int{math.MinInt, -1, 0, 1, 2, 3, math.MaxInt} {
		checkRun(t, p, rowOf(draws, value), ending{}, false)
		for n := range draws {
			if value < 0 || value > 2 {
				other := slices.Clone(draws)
				other[n] = value
				checkRun(t, p, other, ending{}, false)
			}
		}
	}
}

// checkTraces compares all that chapter 2 tells of statements with endings.
func checkTraces(t *testing.T, p []impl.Stmt) {
	t.Helper()
	list, ok := programWanted(p)
	if !ok {
		checkNoTraces(t, p)
		checkRun(t, p, nil, ending{}, false)
		checkRun(t, p, []int{0}, ending{}, false)
		return
	}
	all := endings(list, [4]int{}, ending{weight: 1})
	for i, e := range all {
		// Of very many runs some are enough.
		if i%(len(all)/300+1) == 0 {
			checkRun(t, p, e.draws, e, true)
			checkNear(t, p, e.draws)
		}
	}
	if impl.CountDraws(p) > 6 {
		checkNoTraces(t, p)
		return
	}
	rows, best := weighed(all)
	got, gotOk := impl.TracesOf(p)
	if !gotOk || !slices.EqualFunc(got, rows, slices.Equal) {
		t.Fatalf("TracesOf %v = %v, %v; want %v", p, got, gotOk, rows)
	}
	first, most, some := impl.BestTrace(p)
	if some != (len(rows) > 0) || most != best.weight || !slices.Equal(first, best.draws) {
		t.Fatalf("BestTrace of %v = %v, %d, %v; want %v", p, first, most, some, best)
	}
}

func checkNoTraces(t *testing.T, p []impl.Stmt) {
	t.Helper()
	if got, ok := impl.TracesOf(p); ok || len(got) != 0 {
		t.Fatalf("TracesOf %v = %v, %v", p, got, ok)
	}
	if first, most, ok := impl.BestTrace(p); ok || most != 0 || len(first) != 0 {
		t.Fatalf("BestTrace of %v = %v, %d, %v", p, first, most, ok)
	}
}

// Statements that together set, read and pass over all that a run has.
var runStmts = []impl.Stmt{
	{Kind: impl.StSet, A: 1, B: -1, C: 2},
	{Kind: impl.StSet, A: 0, B: 1, C: 2},
	{Kind: impl.StSet, A: 1, B: 0, C: 1},
	{Kind: impl.StSet, A: 0, B: 0, C: 1},
	{Kind: impl.StAdd, A: 1, B: 0},
	{Kind: impl.StDraw, A: 0, W: [3]int{3, 0, 5}},
	{Kind: impl.StDraw, A: 1, W: [3]int{0, 1, 9}},
	{Kind: impl.StDrawBy, A: 1, B: 0, W: [3]int{2, 7, 0}},
	{Kind: impl.StWeigh, A: 1, W: [3]int{4, 0, 1}},
	{Kind: impl.StWeigh, A: 0, W: [3]int{0, 3, 2}},
	{Kind: impl.StWeighBy, A: 0, B: 1, W: [3]int{5, 1, 0}},
	{Kind: impl.StSkip, A: 0, B: 1, C: 0},
	{Kind: impl.StSkip, A: 1, B: 2, C: 2},
	{Kind: impl.StSkip, A: 1, B: 12, C: 1},
	{Kind: impl.StLoop, B: 2, C: 2},
	{Kind: impl.StLoop, B: 1, C: 3},
	{Kind: impl.StLoop, B: 1, C: 0},
}

// smallPrograms returns all rows of up to three of runStmts.
func smallPrograms() [][]impl.Stmt {
	all := [][]impl.Stmt{nil}
	for at := 0; len(all[at]) < 3; at++ {
		for _, s := range runStmts {
			all = append(all, join(all[at], []impl.Stmt{s}))
		}
	}
	return all
}

// Promise 2, for all programs of up to three statements out of some, and for some of more.
func TestTracesOfAll(t *testing.T) {
	for _, p := range smallPrograms() {
		checkTraces(t, p)
	}
	for i := range 5000 {
		checkTraces(t, manyStmts(i, 4+i%7))
	}
}

// manyStmts returns statements that hang on a number alone.
func manyStmts(number int, many int) []impl.Stmt {
	var p []impl.Stmt
	n := uint32(number)*2654435761 + 12345
	for range many {
		n = n*1664525 + 1013904223
		p = append(p, runStmts[int(n>>16)%len(runStmts)])
	}
	return p
}

// Of all rows of draws those and no others are runs that endings tells.
func TestEachRunHasOneTrace(t *testing.T) {
	draw0 := impl.Stmt{Kind: impl.StDraw, A: 0, W: [3]int{3, 0, 5}}
	weigh0 := impl.Stmt{Kind: impl.StWeigh, A: 0, W: [3]int{0, 3, 2}}
	over1 := impl.Stmt{Kind: impl.StSkip, A: 1, B: 12, C: 1}
	for _, p := range [][]impl.Stmt{
		nil,
		{draw1, skip1, drawBy},
		{weigh0, draw1, drawBy},
		{draw1, over1, draw1, over1, draw1},
		{draw0, {Kind: impl.StSkip, A: 0, B: 1, C: 0}, loop(2, 2), draw1, {Kind: impl.StSkip, A: 1, B: 2, C: 2}},
		{loop(1, 3), draw1, {Kind: impl.StSkip, A: 1, B: 1, C: 0}, draw1, drawBy},
	} {
		list, _ := programWanted(p)
		all := endings(list, [4]int{}, ending{weight: 1})
		for _, row := range rowsUpTo(impl.CountDraws(p) + 1) {
			at := slices.IndexFunc(all, func(e ending) bool { return slices.Equal(e.draws, row) })
			if at < 0 {
				checkRun(t, p, row, ending{}, false)
			} else {
				checkRun(t, p, row, all[at], true)
			}
		}
		checkTraces(t, p)
	}
}

// rowsUpTo returns all rows of at most so many values.
func rowsUpTo(many int) [][]int {
	rows := [][]int{nil}
	for at := 0; at < len(rows) && len(rows[at]) < many; at++ {
		rows = append(rows, rowOf(rows[at], 0), rowOf(rows[at], 1), rowOf(rows[at], 2))
	}
	return rows
}

func wantTraces(t *testing.T, name string, p []impl.Stmt, texts string, best string, most int) {
	t.Helper()
	rows, ok := impl.TracesOf(p)
	var got []string
	for _, row := range rows {
		got = append(got, impl.TraceText(row))
	}
	if !ok || strings.Join(got, " ") != texts {
		t.Errorf("%s: TracesOf = %q, %v; want %q", name, got, ok, texts)
	}
	first, weight, some := impl.BestTrace(p)
	if some != (most > 0) || weight != most || some && impl.TraceText(first) != best {
		t.Errorf("%s: BestTrace = %v, %d, %v; want %s, %d", name, first, weight, some, best, most)
	}
	checkTraces(t, p)
}

func TestTracesByHand(t *testing.T) {
	draw0 := impl.Stmt{Kind: impl.StDraw, A: 0, W: [3]int{1, 1, 1}}
	weigh1 := impl.Stmt{Kind: impl.StWeigh, A: 1, W: [3]int{3, 1, 1}}
	never := impl.Stmt{Kind: impl.StWeigh, A: 0, W: [3]int{0, 1, 1}}
	over := impl.Stmt{Kind: impl.StSkip, A: 0, B: 1, C: 1}
	overAll := impl.Stmt{Kind: impl.StSkip, A: 0, B: 12, C: 0}
	wantTraces(t, "nothing", nil, "-", "-", 1)
	wantTraces(t, "the example", []impl.Stmt{draw1, weigh1}, "0 1", "0", 3)
	wantTraces(t, "no draws", []impl.Stmt{set0, weigh1}, "-", "-", 3)
	wantTraces(t, "a skip over a draw", []impl.Stmt{draw0, over, draw1}, "00 01 1 20 21", "01", 2)
	wantTraces(t, "a skip over the rest", []impl.Stmt{overAll, draw1, weigh1}, "-", "-", 1)
	wantTraces(t, "a skip over a loop", []impl.Stmt{draw0, over, loop(1, 2), draw1}, "000 001 010 011 10 11 200 201 210 211", "011", 4)
	wantTraces(t, "the first of the greatest", []impl.Stmt{draw0, draw1}, "00 01 10 11 20 21", "01", 2)
	wantTraces(t, "0 ahead of draws", []impl.Stmt{never, draw1, draw0}, "", "", 0)
	wantTraces(t, "0 without draws", []impl.Stmt{never}, "", "", 0)
	wantTraces(t, "0 behind a draw", []impl.Stmt{draw0, never, draw1}, "10 11 20 21", "11", 2)
	wantTraces(t, "0 behind all draws", []impl.Stmt{draw1, draw0, never}, "01 02 11 12", "11", 2)
	wantTraces(t, "a draw of 2 alone", []impl.Stmt{{Kind: impl.StDraw, W: [3]int{0, 0, 4}}, draw1}, "20 21", "21", 8)
	wantTraces(t, "drawn by another one", []impl.Stmt{draw1, drawBy}, "00 01 10 12", "10", 4)
	wantTraces(t, "drawn again", []impl.Stmt{draw1, draw1, weigh1}, "00 01 10 11", "10", 6)
	wantTraces(t, "no times", []impl.Stmt{loop(1, 0), draw0, draw1}, "0 1", "1", 2)
}

// A weight of 0 does not end a run: what is drawn behind it belongs to its trace.
func TestRunsWithoutWeight(t *testing.T) {
	never := impl.Stmt{Kind: impl.StWeigh, A: 0, W: [3]int{0, 1, 1}}
	p := []impl.Stmt{never, draw1, drawBy}
	checkRun(t, p, []int{1, 2}, ending{state: 21}, true)
	checkRun(t, p, []int{2, 2}, ending{state: 24}, true)
	checkRun(t, p, nil, ending{}, false)
	checkRun(t, p, []int{1}, ending{}, false)
	checkRun(t, p, []int{1, 2, 0}, ending{}, false)
	checkRun(t, []impl.Stmt{draw1}, []int{2}, ending{state: 6}, true)
	checkRun(t, []impl.Stmt{draw1, drawBy}, []int{2, 2}, ending{state: 24}, true)
}

func TestTracesOfManyDraws(t *testing.T) {
	nine := impl.Stmt{Kind: impl.StDraw, A: 3, W: [3]int{9, 8, 9}}
	for n := 0; n <= 10; n++ {
		p := times(nine, n)
		weight, many := 1, 1
		for range n {
			weight, many = weight*9, many*3
		}
		state := 54
		if n == 0 {
			state = 0
		}
		checkRun(t, p, slices.Repeat([]int{2}, n), ending{state: state, weight: weight}, true)
		rows, ok := impl.TracesOf(p)
		first, most, some := impl.BestTrace(p)
		if n > 6 {
			checkNoTraces(t, p)
			continue
		}
		if !ok || !some || most != weight || !slices.Equal(first, make([]int, n)) || len(rows) != many {
			t.Errorf("%d draws: %d traces, %v; %v, %d, %v", n, len(rows), ok, first, most, some)
		}
	}
	most := join(times(loop(4, 3), 1), times(nine, 4))
	checkRun(t, most, make([]int, 12), ending{weight: 282429536481}, true)
	checkRun(t, most, make([]int, 11), ending{}, false)
	checkRun(t, most, make([]int, 13), ending{}, false)
	checkRun(t, most, make([]int, 100000), ending{}, false)
	checkNoTraces(t, most)
	passed := join([]impl.Stmt{{Kind: impl.StSkip, A: 0, B: 12, C: 0}}, times(nine, 7))
	checkRun(t, passed, nil, ending{weight: 1}, true)
	checkNoTraces(t, passed)
	checkTraces(t, passed[:7])
	checkTraces(t, join(times(loop(2, 3), 1), times(draw1, 2)))
	checkTraces(t, join(times(loop(7, 0), 1), times(draw1, 7)))
}

// Statements that are no program, each for another reason.
var noPrograms = [][]impl.Stmt{
	times(set0, 11),
	{draw1, loop(1, 1)},
	{loop(1, 0), {Kind: impl.StDraw}},
	{{Kind: 8}},
	{{Kind: -1}},
	{{Kind: impl.StDraw, A: 4, W: someW}},
	{{Kind: impl.StWeigh, A: 1, W: [3]int{1, 10, 0}}},
	{{Kind: impl.StSkip, A: 1, B: 13}},
	join(times(loop(3, 3), 1), times(set0, 7)),
}

func TestTracesOfNoPrograms(t *testing.T) {
	for _, p := range noPrograms {
		checkTraces(t, p)
	}
}

func TestTraceTexts(t *testing.T) {
	for _, draws := range rowsUpTo(5) {
		want := "-"
		if len(draws) > 0 {
			want = ""
			for _, value := range draws {
				want += [3]string{"0", "1", "2"}[value]
			}
		}
		text := impl.TraceText(draws)
		back, ok := impl.ReadTrace(text)
		if text != want || !ok || !slices.Equal(back, draws) {
			t.Fatalf("TraceText of %v = %q, and read %v, %v", draws, text, back, ok)
		}
	}
	for n := 1; n <= 14; n++ {
		draws := slices.Repeat([]int{2}, n)
		text := strings.Repeat("2", n)
		back, ok := impl.ReadTrace(text)
		if n > 12 {
			if impl.TraceText(draws) != "" || ok || len(back) != 0 {
				t.Errorf("%d values", n)
			}
		} else if impl.TraceText(draws) != text || !ok || !slices.Equal(back, draws) {
			t.Errorf("%d values: %q, %v, %v", n, impl.TraceText(draws), back, ok)
		}
	}
	for _, draws := range [][]int{{-1}, {3}, {0, 10}, {1, 2, -3}, {256}, {-256, 0}, {math.MaxInt}, {math.MinInt}, make([]int, 100000)} {
		if text := impl.TraceText(draws); text != "" {
			t.Errorf("TraceText of %d values is %q", len(draws), text)
		}
	}
}

func TestTextsOfNoTraces(t *testing.T) {
	texts := []string{"", "--", "-0", "0-", " ", " 0", "0 ", "0\n", "+1", "-1", "01 2", "0,1", "\x00", "\x00\x01", "²", "013", "3", "12a", strings.Repeat("0", 100000)}
	for b := range 256 {
		one := string([]byte{byte(b)})
		if b < '0' || b > '2' {
			texts = append(texts, "1"+one, one+"1")
			if b != '-' {
				texts = append(texts, one)
			}
		}
	}
	for _, s := range texts {
		if draws, ok := impl.ReadTrace(s); ok || len(draws) != 0 {
			t.Errorf("ReadTrace of %.20q = %v", s, draws)
		}
	}
}

// What is returned is new memory, each row for itself, and what is given stays as it is.
func TestTracesShareNothing(t *testing.T) {
	whole := join([]impl.Stmt{draw1, skip1, drawBy, draw1}, times(weigh3, 20))
	p, before := whole[:4], slices.Clone(whole)
	draws := []int{1, 2, 0, 7, 7}
	want, _ := impl.TracesOf(p)
	wantBest, _, _ := impl.BestTrace(p)
	rows, _ := impl.TracesOf(p)
	best, _, _ := impl.BestTrace(p)
	read, _ := impl.ReadTrace("120")
	impl.RunTrace(p, draws[:3])
	impl.TraceText(draws[:3])
	for i := range rows {
		spoil(rows[i])
		for j := range rows {
			if j > i && !slices.Equal(rows[j], want[j]) {
				t.Fatalf("the traces %d and %d share memory", i, j)
			}
		}
	}
	spoil(best)
	spoil(read)
	again, _ := impl.TracesOf(p)
	againBest, _, _ := impl.BestTrace(p)
	if !slices.EqualFunc(again, want, slices.Equal) || !slices.Equal(againBest, wantBest) {
		t.Error("traces hang on those that were told")
	}
	if !slices.Equal(whole, before) || !slices.Equal(draws, []int{1, 2, 0, 7, 7}) {
		t.Error("what was given is changed")
	}
}

// spoil writes over a list, and over what is behind its length.
func spoil(list []int) {
	full := list[:cap(list)]
	for i := range full {
		full[i] = -7
	}
}
