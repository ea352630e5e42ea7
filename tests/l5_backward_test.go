package tests

import (
	"math"
	"math/big"
	"slices"
	"testing"

	"loop.example/wholechance/impl"
)

// worthWanted is the sum of the weights of all runs from a state, times what they end with.
func worthWanted(list []impl.Stmt, state int, f []int) int {
	return dotOf(weightsWanted(list, state), f)
}

func dotOf(list []int, f []int) int {
	sum := 0
	for i, n := range list {
		sum += n * f[i]
	}
	return sum
}

// fullNumbers returns a number from 0 to 9 for each state, few of them 0, that hang on a number alone.
func fullNumbers(number int) []int {
	list := make([]int, 81)
	n := uint32(number)*2654435761 + 7
	for i := range list {
		n = n*1664525 + 1013904223
		list[i] = int(n >> 24 % 10)
	}
	return list
}

// checkBack compares all that chapter 5 tells of statements with their runs.
func checkBack(t *testing.T, p []impl.Stmt, number int) {
	t.Helper()
	list, ok := programWanted(p)
	if !ok {
		checkNoBack(t, p)
		return
	}
	for _, f := range [][]int{fullNumbers(number), someNumbers(number)} {
		got, gotOk := impl.ValuesBack(p, f)
		if !gotOk || len(got) != 81 {
			t.Fatalf("ValuesBack %v, %v = %v, %v", p, f, got, gotOk)
		}
		for _, state := range []int{0, number % 81, 80 - number%81} {
			if want := worthWanted(list, state, f); got[state] != want {
				t.Fatalf("ValuesBack %v, %v is %d in %d; want %d", p, f, got[state], state, want)
			}
		}
		if worth, gotOk := impl.WorthOf(p, f); !gotOk || worth != worthWanted(list, 0, f) {
			t.Fatalf("WorthOf %v, %v = %d, %v; want %d", p, f, worth, gotOk, worthWanted(list, 0, f))
		}
	}
	checkChances(t, p, weightsWanted(list, 0))
}

// checkChances compares the chance of each value of each variable with the weights in the end.
func checkChances(t *testing.T, p []impl.Stmt, weights []int) {
	t.Helper()
	total := sumOf(weights)
	for v := range 4 {
		for value := range 3 {
			above := 0
			for state, weight := range weights {
				if valuesIn(state)[v] == value {
					above += weight
				}
			}
			a, b, ok := impl.ChanceOf(p, v, value)
			if ok != (total > 0) || !ok && (a != 0 || b != 0) {
				t.Fatalf("ChanceOf %v, %d, %d = %d, %d, %v", p, v, value, a, b, ok)
			}
			if ok && (bigProduct(a, total).Cmp(bigProduct(above, b)) != 0 || !noneInCommon(a, b)) {
				t.Fatalf("ChanceOf %v, %d, %d = %d, %d; want %d, %d, reduced", p, v, value, a, b, above, total)
			}
		}
	}
}

// noneInCommon reports whether 1 alone divides both numbers.
func noneInCommon(a int, b int) bool {
	return new(big.Int).GCD(nil, nil, big.NewInt(int64(a)), big.NewInt(int64(b))).Cmp(big.NewInt(1)) == 0
}

func checkNoBack(t *testing.T, p []impl.Stmt) {
	t.Helper()
	for _, f := range [][]int{fullNumbers(1), make([]int, 81)} {
		wantNoWorth(t, p, f)
	}
	for _, v := range []int{-1, 0, 3, 4} {
		a, b, ok := impl.ChanceOf(p, v, 0)
		wantFraction(t, "ChanceOf no program", a, b, ok, 0, 0, false)
	}
}

func wantNoWorth(t *testing.T, p []impl.Stmt, f []int) {
	t.Helper()
	if got, ok := impl.ValuesBack(p, f); ok || len(got) != 0 {
		t.Fatalf("ValuesBack %v, %v = %v", p, f, got)
	}
	if got, ok := impl.WorthOf(p, f); ok || got != 0 {
		t.Fatalf("WorthOf %v, %v = %d", p, f, got)
	}
}

func TestBackOfAll(t *testing.T) {
	for i, p := range smallPrograms() {
		checkBack(t, p, i)
	}
	for i := range 3000 {
		p := wideStmts(i, 2+i%9)
		if impl.CountDraws(p) <= 6 {
			checkBack(t, p, i)
		}
	}
}

// Promise 5: values backward are weights forward, from each state on, and from all together.
func TestBackIsForward(t *testing.T) {
	for i := range 1500 {
		p, f := wideStmts(i, i%11), fullNumbers(i)
		back, ok := impl.ValuesBack(p, f)
		if ok != impl.ProgramOk(p) {
			t.Fatalf("ValuesBack %v = %v, %v", p, back, ok)
		}
		if !ok {
			continue
		}
		for state, worth := range back {
			if want := dotOf(impl.WeightsFrom(p, state), f); worth != want {
				t.Fatalf("ValuesBack %v, %v is %d in %d; want %d", p, f, worth, state, want)
			}
		}
		if worth, ok := impl.WorthOf(p, f); !ok || worth != back[0] {
			t.Fatalf("WorthOf %v, %v = %d, %v; want %d", p, f, worth, ok, back[0])
		}
		ahead := someNumbers(i)
		if pushed, ok := impl.PushOn(p, ahead); ok && dotOf(pushed, f) != dotOf(ahead, back) {
			t.Fatalf("%v: %v pushed on are worth %d; want %d", p, ahead, dotOf(pushed, f), dotOf(ahead, back))
		}
	}
}

// What values are worth ahead of two programs is what they are worth ahead of the first one, if that is worth ahead of the second one.
func TestBackTwice(t *testing.T) {
	some := 0
	for i := range 4000 {
		p, q := wideStmts(i, i%5), wideStmts(i+4000, i%3)
		both, ok := impl.Joined(p, q)
		if !ok {
			continue
		}
		f := someNumbers(i)
		between, _ := impl.ValuesBack(q, f)
		want, _ := impl.ValuesBack(both, f)
		got, ok := impl.ValuesBack(p, between)
		if ok != (slices.Max(between) <= 9) || ok && !slices.Equal(got, want) {
			t.Fatalf("ValuesBack %v of that of %v = %v, %v; want %v", p, q, got, ok, want)
		}
		if ok {
			some++
		}
	}
	if some < 500 {
		t.Errorf("only %d", some)
	}
}

// wantBack compares ValuesBack with what is told of some states; in all others values are worth nothing.
func wantBack(t *testing.T, name string, p []impl.Stmt, f []int, some ...stateWeight) {
	t.Helper()
	got, ok := impl.ValuesBack(p, f)
	if !ok || !slices.Equal(got, listOf(some...)) {
		t.Errorf("%s: ValuesBack = %v, %v", name, got, ok)
	}
	if worth, ok := impl.WorthOf(p, f); !ok || worth != listOf(some...)[0] {
		t.Errorf("%s: WorthOf = %d, %v", name, worth, ok)
	}
	checkBack(t, p, 41)
}

func TestBackByHand(t *testing.T) {
	draw0 := impl.Stmt{Kind: impl.StDraw, A: 0, W: [3]int{1, 2, 0}}
	// In the states of f all other variables are 0, but for the state 80, in which all are 2.
	f := listOf(stateWeight{0, 1}, stateWeight{1, 2}, stateWeight{2, 3}, stateWeight{80, 9})
	wantBack(t, "nothing", nil, f, stateWeight{0, 1}, stateWeight{1, 2}, stateWeight{2, 3}, stateWeight{80, 9})
	wantBack(t, "a draw", []impl.Stmt{draw0}, f, stateWeight{0, 5}, stateWeight{1, 5}, stateWeight{2, 5})
	wantBack(t, "a draw of 2", []impl.Stmt{{Kind: impl.StDraw, W: [3]int{0, 0, 4}}}, f,
		stateWeight{0, 12}, stateWeight{1, 12}, stateWeight{2, 12}, stateWeight{78, 36}, stateWeight{79, 36}, stateWeight{80, 36})
	wantBack(t, "set to a value", []impl.Stmt{set0}, f, stateWeight{0, 2}, stateWeight{1, 2}, stateWeight{2, 2})
	wantBack(t, "set to itself and 1", []impl.Stmt{{Kind: impl.StSet, A: 0, B: 0, C: 1}}, f,
		stateWeight{0, 2}, stateWeight{1, 3}, stateWeight{2, 1}, stateWeight{79, 9})
	wantBack(t, "set to another one", []impl.Stmt{{Kind: impl.StSet, A: 3, B: 1, C: 0}}, f,
		stateWeight{0, 1}, stateWeight{1, 2}, stateWeight{2, 3}, stateWeight{27, 1}, stateWeight{28, 2}, stateWeight{29, 3},
		stateWeight{54, 1}, stateWeight{55, 2}, stateWeight{56, 3}, stateWeight{26, 9}, stateWeight{53, 9}, stateWeight{80, 9})
	wantBack(t, "added", []impl.Stmt{add01}, f, stateWeight{0, 1}, stateWeight{1, 2}, stateWeight{2, 3}, stateWeight{78, 9})
	wantBack(t, "weighed", []impl.Stmt{{Kind: impl.StWeigh, A: 0, W: [3]int{0, 5, 7}}}, f,
		stateWeight{1, 10}, stateWeight{2, 21}, stateWeight{80, 63})
	wantBack(t, "weighed by", []impl.Stmt{{Kind: impl.StWeighBy, A: 0, B: 3, W: [3]int{4, 5, 0}}}, f,
		stateWeight{0, 4}, stateWeight{1, 10}, stateWeight{80, 45})
	wantBack(t, "a loop done no times", []impl.Stmt{loop(1, 0), draw0}, f,
		stateWeight{0, 1}, stateWeight{1, 2}, stateWeight{2, 3}, stateWeight{80, 9})
	wantBack(t, "a loop", []impl.Stmt{loop(1, 3), draw0}, f, stateWeight{0, 45}, stateWeight{1, 45}, stateWeight{2, 45})
	// The document's example: the values of the variable itself.
	own := make([]int, 81)
	for state := range own {
		own[state] = valuesIn(state)[0]
	}
	if got, ok := impl.ValuesBack([]impl.Stmt{draw0}, own); !ok || !slices.Equal(got, slices.Repeat([]int{2}, 81)) {
		t.Errorf("the example: %v, %v", got, ok)
	}
	if got, ok := impl.WorthOf([]impl.Stmt{draw0}, own); !ok || got != 2 {
		t.Errorf("the example: %d, %v", got, ok)
	}
}

// A skip leads just behind what it passes over, to the end, or, beyond that, to the end too.
func TestBackOverSkips(t *testing.T) {
	skip := func(many int) impl.Stmt { return impl.Stmt{Kind: impl.StSkip, A: 0, B: many, C: 1} }
	twice := impl.Stmt{Kind: impl.StWeigh, A: 3, W: [3]int{2, 1, 1}}
	five := impl.Stmt{Kind: impl.StWeigh, A: 3, W: [3]int{5, 1, 1}}
	set1 := impl.Stmt{Kind: impl.StSet, A: 0, B: -1, C: 1}
	f := listOf(stateWeight{0, 1}, stateWeight{1, 3})
	w := func(at0 int, at1 int) []stateWeight { return []stateWeight{{0, at0}, {1, at1}} }
	wantBack(t, "over one of two", []impl.Stmt{skip(1), twice, five}, f, w(10, 15)...)
	wantBack(t, "just to the end", []impl.Stmt{skip(2), twice, five}, f, w(10, 3)...)
	for many := 3; many <= 12; many++ {
		wantBack(t, "beyond the end", []impl.Stmt{skip(many), twice, five}, f, w(10, 3)...)
		wantBack(t, "the last one", []impl.Stmt{twice, skip(many)}, f, w(2, 6)...)
	}
	wantBack(t, "alone", []impl.Stmt{skip(1)}, f, w(1, 3)...)
	wantBack(t, "alone, beyond the end", []impl.Stmt{skip(12)}, f, w(1, 3)...)
	wantBack(t, "two to the same", []impl.Stmt{skip(3), twice, skip(1), five, twice}, f, w(20, 6)...)
	wantBack(t, "a skip that passes over one", []impl.Stmt{skip(1), skip(12), twice}, f, w(2, 6)...)
	wantBack(t, "a skip to a skip", []impl.Stmt{skip(1), twice, skip(1), five, twice}, f, w(20, 6)...)
	wantBack(t, "what is passed over sets", []impl.Stmt{skip(1), set1, twice}, f, stateWeight{0, 6}, stateWeight{1, 6}, stateWeight{2, 6})
	wantBack(t, "set, and passed over", []impl.Stmt{set1, skip(1), twice}, f, stateWeight{0, 3}, stateWeight{1, 3}, stateWeight{2, 3})
	wantBack(t, "over a loop", []impl.Stmt{skip(3), loop(1, 3), twice, five}, f, w(40, 15)...)
	wantBack(t, "over less than a loop", []impl.Stmt{skip(2), loop(1, 3), twice, five}, f, w(40, 30)...)
	wantBack(t, "out of a loop", []impl.Stmt{loop(2, 2), skip(2), twice, five}, f, w(20, 30)...)
}

// The greatest worth that there is, by twelve draws of the greatest weights, or as many weighings.
func TestGreatestWorth(t *testing.T) {
	nines := [3]int{9, 9, 9}
	f := slices.Repeat([]int{9}, 81)
	worth := 9
	for n := 0; n <= 12; n++ {
		p := times(impl.Stmt{Kind: impl.StDraw, A: 2, W: nines}, n)
		if n > 9 {
			p = join(times(impl.Stmt{Kind: impl.StDrawBy, A: 1, B: 3, W: nines}, n-9), times(loop(3, 3), 1), p[:3])
		}
		got, ok := impl.ValuesBack(p, f)
		if !ok || !slices.Equal(got, slices.Repeat([]int{worth}, 81)) {
			t.Errorf("%d draws: %v, %v", n, got, ok)
		}
		if got, ok := impl.WorthOf(p, f); !ok || got != worth {
			t.Errorf("%d draws: %d, %v", n, got, ok)
		}
		if n > 0 {
			a, b, ok := impl.ChanceOf(p, 2, 1)
			wantFraction(t, "ChanceOf", a, b, ok, 1, 3, true)
		}
		worth *= 27
	}
}

// Values have a number from 0 to 9 for each state, also for those that nothing leads to.
func TestValuesThatAreNone(t *testing.T) {
	never := impl.Stmt{Kind: impl.StWeigh, A: 0, W: [3]int{0, 1, 1}}
	for _, p := range [][]impl.Stmt{nil, {set0}, {draw1, add01}, {never}, {loop(1, 0), draw1}, {{Kind: impl.StSkip, B: 12}, draw1}} {
		for _, many := range []int{0, 1, 3, 80, 82, 162, 100000} {
			wantNoWorth(t, p, make([]int, many))
			wantNoWorth(t, p, slices.Repeat([]int{1}, many))
		}
		for _, at := range []int{0, 1, 40, 79, 80} {
			for _, number := range []int{math.MinInt, -9, -1, 10, 11, maxNumber, math.MaxInt} {
				f := fullNumbers(at)
				f[at] = number
				wantNoWorth(t, p, f)
			}
			for _, number := range []int{0, 9} {
				f := fullNumbers(at)
				f[at] = number
				got, ok := impl.ValuesBack(p, f)
				list, _ := programWanted(p)
				if !ok || got[at] != worthWanted(list, at, f) {
					t.Errorf("ValuesBack %v with %d in %d = %v, %v", p, number, at, got, ok)
				}
			}
		}
	}
}

func TestBackOfNoPrograms(t *testing.T) {
	for _, p := range noPrograms {
		checkNoBack(t, p)
	}
}

// checkStep compares StepBack of one statement with its runs, in all states.
func checkStep(t *testing.T, s impl.Stmt, f []int) {
	t.Helper()
	want := make([]int, 81)
	for state := range want {
		want[state] = worthWanted([]impl.Stmt{s}, state, f)
	}
	if got, ok := impl.StepBack(s, f); !ok || !slices.Equal(got, want) {
		t.Fatalf("StepBack %v, %v = %v, %v; want %v", s, f, got, ok, want)
	}
}

func wantNoStep(t *testing.T, s impl.Stmt, f []int) {
	t.Helper()
	if got, ok := impl.StepBack(s, f); ok || len(got) != 0 {
		t.Fatalf("StepBack %v, %v = %v", s, f, got)
	}
}

// someStmts are statements of all kinds without skips and loops, of all variables.
func someStmts() []impl.Stmt {
	var some []impl.Stmt
	for a := range 4 {
		some = append(some,
			impl.Stmt{Kind: impl.StSet, A: a, B: -1, C: a % 3},
			impl.Stmt{Kind: impl.StDraw, A: a, W: [3]int{3, 9, 5}},
			impl.Stmt{Kind: impl.StDraw, A: a, W: [3]int{0, 0, 1}},
			impl.Stmt{Kind: impl.StWeigh, A: a, W: [3]int{0, 7, 2}})
		for b := range 4 {
			some = append(some, impl.Stmt{Kind: impl.StSet, A: a, B: b, C: (a + b) % 3})
			if a != b {
				some = append(some,
					impl.Stmt{Kind: impl.StAdd, A: a, B: b},
					impl.Stmt{Kind: impl.StDrawBy, A: a, B: b, W: [3]int{2, 0, 5}},
					impl.Stmt{Kind: impl.StWeighBy, A: a, B: b, W: [3]int{6, 1, 0}})
			}
		}
	}
	return some
}

func TestStepsOfAll(t *testing.T) {
	great := make([]int, 81)
	for i := range great {
		great[i] = maxNumber - i*i
	}
	for i, s := range someStmts() {
		for _, f := range [][]int{fullNumbers(i), someNumbers(i), great, slices.Repeat([]int{maxNumber}, 81), make([]int, 81)} {
			checkStep(t, s, f)
		}
	}
	nines := impl.Stmt{Kind: impl.StDraw, A: 3, W: [3]int{9, 9, 9}}
	if got, ok := impl.StepBack(nines, slices.Repeat([]int{maxNumber}, 81)); !ok || !slices.Equal(got, slices.Repeat([]int{27 * maxNumber}, 81)) {
		t.Errorf("the greatest step = %v, %v", got, ok)
	}
	if got, ok := impl.StepBack(impl.Stmt{Kind: impl.StDraw, A: 0, W: someW}, impl.EventOf(0, 0)); !ok || !slices.Equal(got, slices.Repeat([]int{1}, 81)) {
		t.Errorf("a draw and its first value = %v, %v", got, ok)
	}
}

func TestStepsThatAreNone(t *testing.T) {
	f := fullNumbers(2)
	for _, s := range []impl.Stmt{
		skip1,
		{Kind: impl.StSkip, A: 0, B: 12, C: 0},
		loop(1, 1),
		loop(1, 0),
		{Kind: 8},
		{Kind: -1},
		{Kind: impl.StDraw},
		{Kind: impl.StSet, A: 4, B: -1},
		{Kind: impl.StSet, A: 0, B: -2},
		{Kind: impl.StAdd, A: 1, B: 1},
		{Kind: impl.StDraw, A: -1, W: someW},
		{Kind: impl.StWeigh, A: 1, W: [3]int{1, 10, 0}},
		{Kind: math.MaxInt, A: math.MinInt, B: math.MaxInt},
	} {
		wantNoStep(t, s, f)
		wantNoStep(t, s, nil)
	}
	for _, s := range []impl.Stmt{set0, add01, draw1, drawBy, weigh3, weigh2} {
		for _, list := range wrongLists() {
			wantNoStep(t, s, list)
		}
	}
}

// The steps of a plain program, from the last one on, come to what its values are worth.
func TestStepsAreValuesBack(t *testing.T) {
	some := 0
	for i := range 3000 {
		p, f := wideStmts(i, 1+i%6), fullNumbers(i)
		if !impl.PlainOk(p) {
			continue
		}
		row, ok := slices.Clone(f), true
		for at := len(p) - 1; at >= 0 && ok; at-- {
			row, ok = impl.StepBack(p[at], row)
		}
		want, _ := impl.ValuesBack(p, f)
		if !ok || !slices.Equal(row, want) {
			t.Fatalf("the steps of %v with %v = %v, %v; want %v", p, f, row, ok, want)
		}
		some++
	}
	if some < 500 {
		t.Errorf("only %d are plain", some)
	}
}

func TestEvents(t *testing.T) {
	for v := range 4 {
		whole := make([]int, 81)
		for value := range 3 {
			got := impl.EventOf(v, value)
			if len(got) != 81 {
				t.Fatalf("EventOf %d, %d = %v", v, value, got)
			}
			for state, number := range got {
				if number != 0 && number != 1 || (number == 1) != (valuesIn(state)[v] == value) {
					t.Fatalf("EventOf %d, %d = %v", v, value, got)
				}
			}
			addTimes(whole, got, 1)
		}
		if !slices.Equal(whole, slices.Repeat([]int{1}, 81)) {
			t.Errorf("the events of %d are together %v", v, whole)
		}
		for _, value := range append(wrongIndexes, 3) {
			if got := impl.EventOf(v, value); len(got) != 0 {
				t.Errorf("EventOf %d, %d = %v", v, value, got)
			}
		}
	}
	for _, v := range wrongIndexes {
		for value := -1; value <= 3; value++ {
			if got := impl.EventOf(v, value); len(got) != 0 {
				t.Errorf("EventOf %d, %d = %v", v, value, got)
			}
		}
	}
}

func TestChancesByHand(t *testing.T) {
	draw0 := impl.Stmt{Kind: impl.StDraw, A: 0, W: [3]int{1, 2, 0}}
	never := impl.Stmt{Kind: impl.StWeigh, A: 0, W: [3]int{0, 1, 1}}
	for name, c := range map[string]struct {
		p            []impl.Stmt
		v, value     int
		above, below int
	}{
		"nothing, at 0":         {nil, 3, 0, 1, 1},
		"nothing, not at 0":     {nil, 3, 1, 0, 1},
		"a draw":                {[]impl.Stmt{draw0}, 0, 1, 2, 3},
		"a value without worth": {[]impl.Stmt{draw0}, 0, 2, 0, 1},
		"what is not drawn":     {[]impl.Stmt{draw0}, 1, 0, 1, 1},
		"reduced":               {[]impl.Stmt{{Kind: impl.StDraw, A: 2, W: [3]int{6, 8, 2}}}, 2, 1, 1, 2},
		"weighed":               {[]impl.Stmt{draw0, {Kind: impl.StWeigh, A: 0, W: [3]int{6, 1, 5}}}, 0, 0, 3, 4},
		"known behind a draw":   {[]impl.Stmt{draw0, never}, 0, 1, 1, 1},
		"by a skip":             {[]impl.Stmt{draw0, {Kind: impl.StSkip, A: 0, B: 12, C: 1}, draw1}, 1, 1, 2, 5},
	} {
		a, b, ok := impl.ChanceOf(c.p, c.v, c.value)
		wantFraction(t, name, a, b, ok, c.above, c.below, true)
	}
	// Fractions are reduced also where weights are greater than the numbers of lists may be.
	great := []impl.Stmt{{Kind: impl.StDraw, A: 0, W: [3]int{7, 9, 0}}}
	great = join(great, times(impl.Stmt{Kind: impl.StWeigh, A: 0, W: [3]int{7, 9, 0}}, 9))
	a, b, ok := impl.ChanceOf(great, 0, 1)
	wantFraction(t, "ten weights", a, b, ok, 3486784401, 3769259650, true)
}

func TestChancesThatAreNone(t *testing.T) {
	never := impl.Stmt{Kind: impl.StWeigh, A: 0, W: [3]int{0, 1, 1}}
	for _, p := range [][]impl.Stmt{{never}, {never, draw1}, {draw1, never}, {loop(1, 3), never}, {set0, {Kind: impl.StWeigh, A: 0, W: [3]int{5, 0, 5}}}} {
		if impl.TotalOf(p) != 0 {
			t.Fatalf("the total of %v is %d", p, impl.TotalOf(p))
		}
		for v := range 4 {
			for value := range 3 {
				a, b, ok := impl.ChanceOf(p, v, value)
				wantFraction(t, "ChanceOf a total of 0", a, b, ok, 0, 0, false)
			}
		}
		if worth, ok := impl.WorthOf(p, fullNumbers(1)); !ok || worth != 0 {
			t.Errorf("WorthOf %v = %d, %v", p, worth, ok)
		}
	}
	for _, p := range [][]impl.Stmt{nil, {draw1}, {never}, {{Kind: 8}}} {
		for _, v := range wrongIndexes {
			a, b, ok := impl.ChanceOf(p, v, 0)
			wantFraction(t, "ChanceOf no variable", a, b, ok, 0, 0, false)
			a, b, ok = impl.ChanceOf(p, 0, v)
			wantFraction(t, "ChanceOf no value", a, b, ok, 0, 0, false)
		}
		a, b, ok := impl.ChanceOf(p, 1, 3)
		wantFraction(t, "ChanceOf no value", a, b, ok, 0, 0, false)
	}
}

// What is returned is new memory, and what is given stays as it is, also behind its length.
func TestBackSharesNothing(t *testing.T) {
	stmts := join([]impl.Stmt{draw1, skip1, drawBy}, times(weigh3, 20))
	numbers := slices.Concat(fullNumbers(8), slices.Repeat([]int{7}, 20))
	p, beforeStmts := stmts[:3], slices.Clone(stmts)
	f, before := numbers[:81], slices.Clone(numbers)
	want, wantStep := make([]int, 81), make([]int, 81)
	for state := range want {
		want[state] = worthWanted(p, state, f)
		wantStep[state] = worthWanted(p[:1], state, f)
	}
	for range 2 {
		back, _ := impl.ValuesBack(p, f)
		asTheyAre, _ := impl.ValuesBack(nil, f)
		step, _ := impl.StepBack(p[0], f)
		event := impl.EventOf(1, 1)
		if !slices.Equal(back, want) || !slices.Equal(step, wantStep) || !slices.Equal(asTheyAre, before[:81]) || sumOf(event) != 27 {
			t.Errorf("what is worth hangs on what was told: %v, %v, %v, %v", back, step, asTheyAre, event)
		}
		for _, made := range [][]int{back, asTheyAre, step, event} {
			spoil(made)
		}
		impl.WorthOf(p, f)
		impl.ChanceOf(p, 1, 1)
	}
	if !slices.Equal(stmts, beforeStmts) || !slices.Equal(numbers, before) {
		t.Error("what was given is changed")
	}
}
