package tests

import (
	"math"
	"slices"
	"testing"

	"loop.example/wholechance/impl"
)

// withWeights returns statements, one of them with other weights, which may be all 0.
func withWeights(list []impl.Stmt, at int, w [3]int) []impl.Stmt {
	other := slices.Clone(list)
	other[at].W = w
	return other
}

// oneOf are weights of which one is 1, and all others are 0.
func oneOf(value int) [3]int {
	var w [3]int
	w[value] = 1
	return w
}

// overWanted is the weights of the runs that pass over a statement: it leaves all others none.
func overWanted(list []impl.Stmt, at int) []int {
	return weightsWanted(withWeights(list, at, noneW), 0)
}

// slopeWanted is the weights of the runs that do a statement with a weight, as if
// that was 1, so that it is the product of all others.
func slopeWanted(list []impl.Stmt, at int, value int) []int {
	slope := weightsWanted(withWeights(list, at, oneOf(value)), 0)
	addTimes(slope, overWanted(list, at), -1)
	return slope
}

// weighs reports whether a statement of a program has weights, which are not all 0.
func weighs(s impl.Stmt) bool { return s.W != noneW }

// checkSlopes compares all that chapter 12 tells of statements with their runs.
func checkSlopes(t *testing.T, p []impl.Stmt) {
	t.Helper()
	list, ok := programWanted(p)
	if !ok {
		checkNoSlopes(t, p)
		return
	}
	sums := make([][]int, len(list))
	for at, s := range list {
		if weighs(s) {
			sums[at] = checkSlopesAt(t, p, list, at)
		} else {
			checkNoSlopesAt(t, p, at)
		}
	}
	for _, at := range append(wrongIndexes, len(list), len(list)+1, -len(list)) {
		if at < 0 || at >= len(list) {
			checkNoSlopesAt(t, p, at)
		}
	}
	checkSteepest(t, p, sums)
}

// checkSteepest compares Steepest with the sums of the slopes of all statements, none for those without weights.
func checkSteepest(t *testing.T, p []impl.Stmt, sums [][]int) {
	t.Helper()
	first, best, most := 0, 0, -1
	for at := range sums {
		for value, sum := range sums[at] {
			if sum > most {
				first, best, most = at, value, sum
			}
		}
	}
	if at, value, ok := impl.Steepest(p); ok != (most >= 0) || at != first || value != best {
		t.Fatalf("Steepest %v = %d, %d, %v; want %d, %d", p, at, value, ok, first, best)
	}
}

// checkSlopesAt does so for a statement that has weights, and returns the sums of its slopes.
func checkSlopesAt(t *testing.T, p []impl.Stmt, list []impl.Stmt, at int) []int {
	t.Helper()
	var sums, uses []int
	for value := range 3 {
		want := slopeWanted(list, at, value)
		if got, ok := impl.SlopeOf(p, at, value); !ok || !slices.Equal(got, want) {
			t.Fatalf("SlopeOf %v, %d, %d = %v, %v; want %v", p, at, value, got, ok, want)
		}
		checkMore(t, p, list, at, value)
		sums = append(sums, sumOf(want))
		uses = append(uses, sums[value]*list[at].W[value])
	}
	for _, value := range append(wrongIndexes, 3) {
		checkNoSlope(t, p, at, value)
	}
	if got, ok := impl.UsesOf(p, at); !ok || !slices.Equal(got, uses) {
		t.Fatalf("UsesOf %v, %d = %v, %v; want %v", p, at, got, ok, uses)
	}
	passed := sumOf(overWanted(list, at))
	if got := impl.PassedOver(p, at); got != passed || got != impl.TotalOf(p)-sumOf(uses) {
		t.Fatalf("PassedOver %v, %d = %d; want %d", p, at, got, passed)
	}
	return sums
}

// checkMore compares one more of a weight with the document, and with the weights of runs.
func checkMore(t *testing.T, p []impl.Stmt, list []impl.Stmt, at int, value int) {
	t.Helper()
	w := list[at].W
	w[value]++
	want := withWeights(list, at, w)
	got, ok := impl.WithMore(p, at, value)
	if len(list) > 10 || w[value] > 9 {
		if ok || len(got) != 0 {
			t.Fatalf("WithMore %v, %d, %d = %v, %v", p, at, value, got, ok)
		}
		return
	}
	if !ok || !slices.Equal(got, want) {
		t.Fatalf("WithMore %v, %d, %d = %v, %v; want %v", p, at, value, got, ok, want)
	}
}

// checkNoSlope sees that of what is no weight of a statement no slope is told.
func checkNoSlope(t *testing.T, p []impl.Stmt, at int, value int) {
	t.Helper()
	if got, ok := impl.SlopeOf(p, at, value); ok || len(got) != 0 {
		t.Fatalf("SlopeOf %v, %d, %d = %v, %v", p, at, value, got, ok)
	}
	if got, ok := impl.WithMore(p, at, value); ok || len(got) != 0 {
		t.Fatalf("WithMore %v, %d, %d = %v, %v", p, at, value, got, ok)
	}
}

// checkNoSlopesAt does so for an index at which no statement has weights.
func checkNoSlopesAt(t *testing.T, p []impl.Stmt, at int) {
	t.Helper()
	for value := -1; value <= 3; value++ {
		checkNoSlope(t, p, at, value)
	}
	uses, ok := impl.UsesOf(p, at)
	if passed := impl.PassedOver(p, at); ok || len(uses) != 0 || passed != -1 {
		t.Fatalf("UsesOf %v, %d = %v, %v, PassedOver %d", p, at, uses, ok, passed)
	}
}

func checkNoSlopes(t *testing.T, p []impl.Stmt) {
	t.Helper()
	for at := -1; at <= 13; at++ {
		checkNoSlopesAt(t, p, at)
	}
	checkSteepest(t, p, nil)
}

func TestSlopesOfAll(t *testing.T) {
	for _, p := range smallPrograms() {
		checkSlopes(t, p)
	}
	for i := range 2000 {
		for _, p := range [][]impl.Stmt{wideStmts(i, 2+i%9), widePlain(i, 2+i%9)} {
			if impl.CountDraws(p) <= 4 {
				checkSlopes(t, p)
			}
		}
	}
}

// changedBy returns by how much the weights of a program are greater than those of another one.
func changedBy(more []impl.Stmt, p []impl.Stmt) []int {
	grown := impl.WeightsOf(more)
	addTimes(grown, impl.WeightsOf(p), -1)
	return grown
}

// Promise 12: weights grow by slopes, from 0 to 9, which stay as they are meanwhile.
func TestWeightsGrowBySlopes(t *testing.T) {
	some := 0
	for i := range 600 {
		list, ok := impl.Unrolled(wideStmts(i, 1+i%9))
		if !ok || len(list) > 10 {
			continue
		}
		for at, s := range list {
			if weighs(s) {
				checkGrowth(t, list, at, i%3)
				some++
			}
		}
	}
	if some < 500 {
		t.Errorf("only %d weights grow", some)
	}
}

func checkGrowth(t *testing.T, list []impl.Stmt, at int, value int) {
	t.Helper()
	// Another weight is above 0, so that this one may be 0 at first.
	w := list[at].W
	w[value], w[(value+1)%3] = 0, w[(value+1)%3]|1
	p := withWeights(list, at, w)
	slope, ok := impl.SlopeOf(p, at, value)
	for n := range 10 {
		same, alsoOk := impl.SlopeOf(p, at, value)
		uses, _ := impl.UsesOf(p, at)
		if !ok || !alsoOk || !slices.Equal(same, slope) || len(uses) != 3 || uses[value] != n*sumOf(slope) {
			t.Fatalf("SlopeOf %v, %d, %d = %v, UsesOf %v; it was %v", p, at, value, same, uses, slope)
		}
		more, grows := impl.WithMore(p, at, value)
		if grows != (n < 9) || grows && !slices.Equal(changedBy(more, p), slope) {
			t.Fatalf("WithMore %v, %d, %d = %v, %v; want it to grow by %v", p, at, value, more, grows, slope)
		}
		p = more
	}
}

// Promise 12: slopes are weights of the rest, which in a plain program is what is
// ahead of the statement, and what is behind it, if its value is what it is.
func TestSlopesAreWeightsOfTheRest(t *testing.T) {
	for i := range 1500 {
		p := widePlain(i, 1+i%9)
		if !impl.PlainOk(p) {
			continue
		}
		for at, s := range p {
			if weighs(s) {
				checkRest(t, p, at, i)
			}
		}
	}
}

func checkRest(t *testing.T, p []impl.Stmt, at int, number int) {
	t.Helper()
	together := make([]int, 81)
	for value, weight := range p[at].W {
		slope, ok := impl.SlopeOf(p, at, value)
		if want := impl.WeightsOf(withWeights(p, at, oneOf(value))); !ok || !slices.Equal(slope, want) {
			t.Fatalf("SlopeOf %v, %d, %d = %v, %v; want %v", p, at, value, slope, ok, want)
		}
		addTimes(together, slope, weight)
	}
	if want := impl.WeightsOf(p); !slices.Equal(together, want) || impl.PassedOver(p, at) != 0 {
		t.Fatalf("the slopes of %v at %d are together %v; want %v", p, at, together, want)
	}
	value := number % 3
	slope, _ := impl.SlopeOf(p, at, value)
	if want := restWanted(p, at, value); !slices.Equal(slope, want) {
		t.Fatalf("SlopeOf %v, %d, %d = %v; the rest has %v", p, at, value, slope, want)
	}
}

// restWanted is the weights ahead of a statement of a plain program, times those
// behind it, for each value that it has or draws with a weight.
func restWanted(p []impl.Stmt, at int, value int) []int {
	want := make([]int, 81)
	s := p[at]
	for state, weight := range impl.WeightsOf(p[:at]) {
		values := valuesIn(state)
		by := 0
		if s.Kind == impl.StDrawBy || s.Kind == impl.StWeighBy {
			by = values[s.B]
		}
		for v := range 3 {
			drawn := s.Kind == impl.StDraw || s.Kind == impl.StDrawBy
			if weight == 0 || (v+by)%3 != value || !drawn && v != values[s.A] {
				continue
			}
			values[s.A] = v
			to := values[0] + 3*values[1] + 9*values[2] + 27*values[3]
			addTimes(want, impl.WeightsFrom(p[at+1:], to), weight)
		}
	}
	return want
}

// Of programs of many draws the slopes of all states are together what the total grows by.
func TestSlopesOfManyDraws(t *testing.T) {
	some := 0
	for i := range 8000 {
		for _, p := range [][]impl.Stmt{wideStmts(i, 5+i%6), widePlain(i, 5+i%6)} {
			if impl.CountDraws(p) >= 5 {
				checkTogether(t, p)
				some++
			}
		}
	}
	if some < 300 {
		t.Errorf("only %d", some)
	}
}

func checkTogether(t *testing.T, p []impl.Stmt) {
	t.Helper()
	list, _ := programWanted(p)
	sums := make([][]int, len(list))
	for at, s := range list {
		if !weighs(s) {
			continue
		}
		uses, _ := impl.UsesOf(p, at)
		for value, weight := range s.W {
			slope, ok := impl.SlopeOf(p, at, value)
			if !ok || len(uses) != 3 || uses[value] != weight*sumOf(slope) {
				t.Fatalf("UsesOf %v, %d = %v; its slope of %d is %v", p, at, uses, value, slope)
			}
			sums[at] = append(sums[at], sumOf(slope))
		}
		if passed := impl.PassedOver(p, at); passed < 0 || passed != impl.TotalOf(p)-sumOf(uses) {
			t.Fatalf("PassedOver %v, %d = %d; UsesOf %v of %d", p, at, passed, uses, impl.TotalOf(p))
		}
	}
	checkSteepest(t, p, sums)
}

// wantSlope compares the slope of a weight with what is told of some states; that of all others is 0.
func wantSlope(t *testing.T, name string, p []impl.Stmt, at int, value int, some ...stateWeight) {
	t.Helper()
	if got, ok := impl.SlopeOf(p, at, value); !ok || !slices.Equal(got, listOf(some...)) {
		t.Errorf("%s: SlopeOf %d, %d = %v, %v", name, at, value, got, ok)
	}
	checkSlopes(t, p)
}

func wantUses(t *testing.T, name string, p []impl.Stmt, at int, uses [3]int, passed int) {
	t.Helper()
	if got, ok := impl.UsesOf(p, at); !ok || !slices.Equal(got, uses[:]) {
		t.Errorf("%s: UsesOf %d = %v, %v", name, at, got, ok)
	}
	if got := impl.PassedOver(p, at); got != passed {
		t.Errorf("%s: PassedOver %d = %d", name, at, got)
	}
	checkSlopes(t, p)
}

func wantSteepest(t *testing.T, name string, p []impl.Stmt, at int, value int) {
	t.Helper()
	if gotAt, got, ok := impl.Steepest(p); !ok || gotAt != at || got != value {
		t.Errorf("%s: Steepest = %d, %d, %v", name, gotAt, got, ok)
	}
	checkSlopes(t, p)
}

func TestSlopesByHand(t *testing.T) {
	draw0 := impl.Stmt{Kind: impl.StDraw, A: 0, W: [3]int{1, 2, 0}}
	weigh0 := impl.Stmt{Kind: impl.StWeigh, A: 0, W: [3]int{1, 4, 5}}
	set1 := impl.Stmt{Kind: impl.StSet, A: 1, B: -1, C: 1}
	for value := range 3 {
		wantSlope(t, "the example", []impl.Stmt{draw0}, 0, value, stateWeight{value, 1})
	}
	both := []impl.Stmt{draw0, weigh0}
	wantSlope(t, "a draw that is weighed", both, 0, 1, stateWeight{1, 4})
	wantSlope(t, "its weight of 0", both, 0, 2, stateWeight{2, 5})
	wantSlope(t, "what is weighed", both, 1, 1, stateWeight{1, 2})
	wantSlope(t, "what is never drawn", both, 1, 2)
	wantUses(t, "the draw", both, 0, [3]int{1, 8, 0}, 0)
	wantUses(t, "the weighing", both, 1, [3]int{1, 8, 0}, 0)
	wantSteepest(t, "both", both, 0, 2)
	// A variable is drawn by another one, or weighed by it: a weight is not that of the value alone.
	by := []impl.Stmt{set1, {Kind: impl.StDrawBy, A: 0, B: 1, W: [3]int{3, 1, 0}}}
	wantSlope(t, "by 1, the first weight", by, 1, 0, stateWeight{5, 1})
	wantSlope(t, "by 1, the second weight", by, 1, 1, stateWeight{3, 1})
	wantSlope(t, "by 1, the last weight", by, 1, 2, stateWeight{4, 1})
	wantUses(t, "by 1", by, 1, [3]int{3, 1, 0}, 0)
	weighBy := []impl.Stmt{set1, draw0, {Kind: impl.StWeighBy, A: 0, B: 1, W: [3]int{7, 2, 3}}}
	wantSlope(t, "weighed by 1, never drawn", weighBy, 2, 0)
	wantSlope(t, "weighed by 1, drawn 0", weighBy, 2, 1, stateWeight{3, 1})
	wantSlope(t, "weighed by 1, drawn 1", weighBy, 2, 2, stateWeight{4, 2})
	wantSlope(t, "weighed by 1, a weight of 0", weighBy, 1, 2, stateWeight{5, 7})
	wantUses(t, "weighed by 1", weighBy, 2, [3]int{0, 2, 6}, 0)
	// What is drawn by another one, and over at once, uses each weight all the same.
	over := []impl.Stmt{{Kind: impl.StDraw, A: 1, W: [3]int{1, 0, 4}}, {Kind: impl.StDrawBy, A: 0, B: 1, W: [3]int{3, 1, 0}}, set0, set1}
	for value := range 3 {
		wantSlope(t, "over", over, 1, value, stateWeight{4, 5})
	}
	wantUses(t, "over", over, 1, [3]int{15, 5, 0}, 0)
	// States from which a variable is set or added.
	wantSlope(t, "drawn, and added", []impl.Stmt{draw1, set0, add01}, 0, 2, stateWeight{6, 1})
	wantSlope(t, "drawn, and set", []impl.Stmt{draw0, set0}, 0, 2, stateWeight{1, 1})
}

// Weights of 0 leave other weights without slope, but not themselves.
func TestSlopesOfNoughts(t *testing.T) {
	draw0 := impl.Stmt{Kind: impl.StDraw, A: 0, W: [3]int{1, 2, 0}}
	never := impl.Stmt{Kind: impl.StWeigh, A: 0, W: [3]int{0, 1, 1}}
	wantSlope(t, "never, ahead", []impl.Stmt{never, draw0}, 0, 0, stateWeight{0, 1}, stateWeight{1, 2})
	wantSlope(t, "behind never", []impl.Stmt{never, draw0}, 1, 1)
	wantUses(t, "never, ahead", []impl.Stmt{never, draw0}, 0, [3]int{0, 0, 0}, 0)
	wantSteepest(t, "never, ahead", []impl.Stmt{never, draw0}, 0, 0)
	wantSlope(t, "never, behind", []impl.Stmt{draw0, never}, 1, 0, stateWeight{0, 1})
	wantSlope(t, "a weight of 0, and then 1", []impl.Stmt{draw0, never}, 0, 2, stateWeight{2, 1})
	wantSlope(t, "a weight of 1, and then 0", []impl.Stmt{draw0, never}, 0, 0)
	twice := []impl.Stmt{draw0, {Kind: impl.StWeigh, A: 0, W: [3]int{3, 1, 0}}}
	wantSlope(t, "0 twice, ahead", twice, 0, 2)
	wantSlope(t, "0 twice, behind", twice, 1, 2)
	wantSlope(t, "0 twice, another value", twice, 0, 0, stateWeight{0, 3})
	nothing := []impl.Stmt{never, never, draw0}
	for at := range nothing {
		for value := range 3 {
			wantSlope(t, "never twice", nothing, at, value)
		}
	}
	wantSteepest(t, "never twice", nothing, 0, 0)
	wantSteepest(t, "never twice, behind", join([]impl.Stmt{set0, add01, {Kind: impl.StSet, A: 0, B: -1}}, nothing), 3, 0)
}

// Only runs that do a statement use its weights.
func TestSlopesPassedOver(t *testing.T) {
	draw0 := impl.Stmt{Kind: impl.StDraw, A: 0, W: [3]int{1, 2, 0}}
	five := impl.Stmt{Kind: impl.StWeigh, A: 3, W: [3]int{5, 4, 1}}
	skip := func(many int, value int) impl.Stmt {
		return impl.Stmt{Kind: impl.StSkip, A: 0, B: many, C: value}
	}
	p := []impl.Stmt{draw0, skip(1, 1), five}
	wantSlope(t, "passed over by 1", p, 2, 0, stateWeight{0, 1})
	wantUses(t, "passed over by 1", p, 2, [3]int{5, 0, 0}, 2)
	wantSlope(t, "what passes over", p, 0, 1, stateWeight{1, 1})
	wantSlope(t, "what does not", p, 0, 0, stateWeight{0, 5})
	wantSlope(t, "what would not", p, 0, 2, stateWeight{2, 5})
	wantUses(t, "what passes over", p, 0, [3]int{5, 2, 0}, 0)
	wantSteepest(t, "passed over by 1", p, 0, 0)
	for many := 1; many <= 12; many++ {
		all := []impl.Stmt{skip(many, 0), draw0}
		for value := range 3 {
			wantSlope(t, "passed over by all", all, 1, value)
		}
		wantUses(t, "passed over by all", all, 1, [3]int{0, 0, 0}, 1)
		wantSteepest(t, "passed over by all", all, 1, 0)
		none := []impl.Stmt{skip(many, 1), draw0}
		wantUses(t, "passed over by none", none, 1, [3]int{1, 2, 0}, 0)
		last := []impl.Stmt{draw0, skip(many, 1)}
		wantUses(t, "a skip as the last one", last, 0, [3]int{1, 2, 0}, 0)
	}
	// A weight of 0 leads to a skip that no other run does.
	q := []impl.Stmt{draw0, skip(1, 2), draw1, five}
	wantSlope(t, "a weight of 0 that passes over", q, 0, 2, stateWeight{2, 5})
	wantUses(t, "passed over by a weight of 0", q, 2, [3]int{15, 30, 0}, 0)
	wantUses(t, "a draw passed over by 1", []impl.Stmt{draw0, skip(1, 1), draw1, five}, 2, [3]int{5, 10, 0}, 10)
	wantSlope(t, "so, and its weight of 0", []impl.Stmt{draw0, skip(1, 1), draw1, five}, 2, 2, stateWeight{6, 5})
	// Set behind a skip, and so done by some runs, with more than one state.
	set3 := impl.Stmt{Kind: impl.StSet, A: 3, B: -1, C: 1}
	wantUses(t, "some runs set it", []impl.Stmt{draw0, skip(1, 0), set3, five}, 3, [3]int{5, 8, 0}, 0)
	checkSlopes(t, []impl.Stmt{loop(3, 3), draw0, skip(3, 1), five})
}

// Each time of a loop is a statement for itself.
func TestSlopesOfLoops(t *testing.T) {
	draw0 := impl.Stmt{Kind: impl.StDraw, A: 0, W: [3]int{1, 2, 0}}
	weigh0 := impl.Stmt{Kind: impl.StWeigh, A: 0, W: [3]int{1, 3, 9}}
	twice := []impl.Stmt{loop(1, 2), draw0}
	wantSlope(t, "the first time", twice, 0, 2, stateWeight{0, 1}, stateWeight{1, 2})
	wantSlope(t, "the second time", twice, 1, 2, stateWeight{2, 3})
	checkNoSlopesAt(t, twice, 2)
	wantUses(t, "the first time", twice, 0, [3]int{3, 6, 0}, 0)
	if more, ok := impl.WithMore(twice, 1, 0); !ok || !slices.Equal(more, []impl.Stmt{draw0, {Kind: impl.StDraw, A: 0, W: [3]int{2, 2, 0}}}) {
		t.Errorf("WithMore of a loop = %v, %v", more, ok)
	}
	none := []impl.Stmt{loop(1, 0), draw0, set0}
	checkNoSlopes(t, none)
	ahead := []impl.Stmt{loop(2, 0), draw0, draw0, set0, weigh0}
	checkNoSlopesAt(t, ahead, 0)
	wantSlope(t, "behind a loop that is done no times", ahead, 1, 1, stateWeight{1, 1})
	wantSteepest(t, "behind a loop that is done no times", ahead, 1, 1)
	wantSteepest(t, "a loop", []impl.Stmt{loop(2, 2), draw0, weigh0}, 0, 2)
}

func TestSteepestByHand(t *testing.T) {
	even := func(v int) impl.Stmt { return impl.Stmt{Kind: impl.StDraw, A: v, W: [3]int{1, 1, 1}} }
	ones := impl.Stmt{Kind: impl.StWeigh, A: 0, W: [3]int{1, 1, 1}}
	wantSteepest(t, "values that are the same", []impl.Stmt{even(0)}, 0, 0)
	wantSteepest(t, "statements that are the same", []impl.Stmt{even(0), even(1)}, 0, 0)
	wantSteepest(t, "ahead of another one", []impl.Stmt{ones, even(0)}, 0, 0)
	wantSteepest(t, "behind another one", []impl.Stmt{even(1), ones}, 1, 0)
	wantSteepest(t, "not the first value", []impl.Stmt{set0, ones}, 1, 1)
	wantSteepest(t, "two values", []impl.Stmt{even(0), {Kind: impl.StWeigh, A: 0, W: [3]int{1, 5, 5}}}, 0, 1)
	wantSteepest(t, "the last value", []impl.Stmt{even(0), {Kind: impl.StWeigh, A: 0, W: [3]int{1, 5, 6}}}, 0, 2)
	wantSteepest(t, "what is 0 may be steepest", []impl.Stmt{set0, add01, {Kind: impl.StWeigh, A: 0, W: [3]int{4, 0, 1}}, ones}, 2, 1)
	for _, p := range [][]impl.Stmt{nil, {set0}, {add01, skip1}, {set0, loop(1, 0), draw1}, {loop(2, 3), set0, add01}} {
		checkNoSlopes(t, p)
		if total := impl.TotalOf(p); total != 1 {
			t.Errorf("the total of %v is %d", p, total)
		}
	}
}

// There is no more of a weight of 9, whatever the others, but it has a slope.
func TestMoreOfNines(t *testing.T) {
	for _, s := range []impl.Stmt{draw1, drawBy, weigh3, weigh2} {
		for value := range 3 {
			for weight := range 10 {
				w := [3]int{1, 1, 1}
				w[value] = weight
				s.W = w
				p := []impl.Stmt{set0, s, add01}
				more, ok := impl.WithMore(p, 1, value)
				if ok != (weight < 9) || ok && more[1].W[value] != weight+1 {
					t.Errorf("WithMore %v, 1, %d = %v, %v", p, value, more, ok)
				}
				checkSlopes(t, p)
			}
		}
	}
	nines := [3]int{9, 9, 9}
	for value := range 3 {
		p := []impl.Stmt{{Kind: impl.StDraw, A: 0, W: nines}}
		wantSlope(t, "nines", p, 0, value, stateWeight{value, 1})
		wantUses(t, "nines", p, 0, [3]int{9, 9, 9}, 0)
		if more, ok := impl.WithMore(p, 0, value); ok || len(more) != 0 {
			t.Errorf("WithMore of nines = %v, %v", more, ok)
		}
	}
}

// What is too long unrolled is no program with one more, but has slopes.
func TestSlopesOfLongPrograms(t *testing.T) {
	for n := 0; n <= 12; n++ {
		for _, p := range [][]impl.Stmt{
			join(times(set0, n), times(weigh2, 1)),
			join(times(weigh2, 1), times(add01, n)),
			join([]impl.Stmt{loop(1, 3), weigh2}, times(set0, n)),
			join([]impl.Stmt{loop(2, 3), weigh2, draw1}, times(set0, n)),
			join([]impl.Stmt{loop(3, 3), weigh2, skip1, draw1}, times(set0, n)),
			join([]impl.Stmt{loop(4, 3), weigh2, skip1, draw1, drawBy}, times(set0, n)),
		} {
			checkSlopes(t, p)
		}
	}
	for behind := 0; behind <= 3; behind++ {
		p := join([]impl.Stmt{loop(3, 3), set0, add01, weigh3}, times(weigh3, behind))
		for _, at := range []int{2, 5, 8} {
			more, ok := impl.WithMore(p, at, 1)
			if ok != (behind <= 1) || ok && (len(more) != 9+behind || more[at].W != [3]int{1, 3, 0}) || !ok && len(more) != 0 {
				t.Errorf("WithMore of %d statements = %v, %v", 9+behind, more, ok)
			}
			wantSlope(t, "a loop", p, at, 0, stateWeight{1, 1})
			wantSlope(t, "a loop", p, at, 1)
			wantUses(t, "a loop", p, at, [3]int{1, 0, 0}, 0)
		}
		wantSteepest(t, "a loop", p, 2, 0)
	}
}

// The greatest slopes that there are.
func TestGreatestSlopes(t *testing.T) {
	nines := [3]int{9, 9, 9}
	rest := 1
	for n := 1; n <= 12; n++ {
		p := times(impl.Stmt{Kind: impl.StDraw, A: 2, W: nines}, n)
		if n > 9 {
			p = join(times(impl.Stmt{Kind: impl.StDrawBy, A: 2, B: 0, W: nines}, n-9), times(loop(3, 3), 1), p[:3])
		}
		for value := range 3 {
			last, ok := impl.SlopeOf(p, n-1, value)
			if !ok || !slices.Equal(last, listOf(stateWeight{9 * value, rest})) {
				t.Errorf("%d draws: SlopeOf the last one, %d = %v, %v", n, value, last, ok)
			}
			first, ok := impl.SlopeOf(p, 0, value)
			if !ok || n > 1 && !slices.Equal(first, listOf(stateWeight{0, rest / 3}, stateWeight{9, rest / 3}, stateWeight{18, rest / 3})) {
				t.Errorf("%d draws: SlopeOf the first one, %d = %v, %v", n, value, first, ok)
			}
		}
		for at := range n {
			if uses, ok := impl.UsesOf(p, at); !ok || !slices.Equal(uses, slices.Repeat([]int{9 * rest}, 3)) || impl.PassedOver(p, at) != 0 {
				t.Errorf("%d draws: UsesOf %d = %v, %v", n, at, uses, ok)
			}
		}
		if at, value, ok := impl.Steepest(p); !ok || at != 0 || value != 0 {
			t.Errorf("%d draws: Steepest = %d, %d, %v", n, at, value, ok)
		}
		rest *= 27
	}
}

func TestSlopesOfNoPrograms(t *testing.T) {
	for _, p := range noPrograms {
		checkNoSlopes(t, p)
	}
	for _, other := range []impl.Stmt{{Kind: impl.StDraw, A: 0}, {Kind: impl.StAdd, A: 1, B: 1}, loop(2, 1), {A: 0, B: 4}, {Kind: impl.StWeigh, W: [3]int{10, 0, 0}}} {
		checkNoSlopes(t, []impl.Stmt{draw1, other, add01})
	}
	p := []impl.Stmt{draw1, weigh3}
	for _, at := range []int{math.MinInt, -2, -1, 2, 3, 12, math.MaxInt} {
		checkNoSlopesAt(t, p, at)
	}
	for _, value := range []int{math.MinInt, -3, -1, 3, 4, math.MaxInt} {
		checkNoSlope(t, p, 0, value)
		checkNoSlope(t, p, 1, value)
	}
}

// What is returned is new memory, and what is given stays as it is, also behind its length.
func TestSlopesShareNothing(t *testing.T) {
	whole := join([]impl.Stmt{draw1, skip1, drawBy, weigh2}, times(weigh3, 20))
	before := slices.Clone(whole)
	for many := range 11 {
		p := whole[:many]
		for at, s := range before[:many] {
			if !weighs(s) {
				continue
			}
			for range 2 {
				for value := range 3 {
					checkMore(t, p, before[:many], at, value)
					more, _ := impl.WithMore(p, at, value)
					slope, _ := impl.SlopeOf(p, at, value)
					if !slices.Equal(slope, slopeWanted(before[:many], at, value)) {
						t.Fatalf("SlopeOf %v hangs on what was told: %v", p, slope)
					}
					spoilStmts(more)
					spoil(slope)
				}
				uses, _ := impl.UsesOf(p, at)
				if sumOf(uses)+impl.PassedOver(p, at) != sumOf(weightsWanted(before[:many], 0)) {
					t.Fatalf("UsesOf %v hangs on what was told: %v", p, uses)
				}
				spoil(uses)
				impl.Steepest(p)
			}
		}
	}
	if !slices.Equal(whole, before) {
		t.Error("what was given is changed")
	}
}
