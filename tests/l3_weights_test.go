package tests

import (
	"math"
	"slices"
	"testing"

	"loop.example/wholechance/impl"
)

// weightsWanted is the sum of the weights of all runs from a state, by where they end.
func weightsWanted(list []impl.Stmt, state int) []int {
	values := [4]int{state % 3, state / 3 % 3, state / 9 % 3, state / 27}
	want := make([]int, 81)
	for _, e := range endings(list, values, ending{weight: 1}) {
		want[e.state] += e.weight
	}
	return want
}

// pushWanted adds, for each state ahead, its number times the weights from it.
func pushWanted(list []impl.Stmt, numbers []int) []int {
	want := make([]int, 81)
	for state, number := range numbers {
		if number != 0 {
			addTimes(want, weightsWanted(list, state), number)
		}
	}
	return want
}

func addTimes(sum []int, list []int, number int) {
	for i, n := range list {
		sum[i] += number * n
	}
}

func sumOf(list []int) int {
	sum := 0
	for _, n := range list {
		sum += n
	}
	return sum
}

// someNumbers returns a number from 0 to 9 for each state, most of them 0, that hang on a number alone.
func someNumbers(number int) []int {
	list := make([]int, 81)
	n := uint32(number)*2654435761 + 99
	for range 5 {
		n = n*1664525 + 1013904223
		list[n>>8%81] = int(n >> 24 % 10)
	}
	return list
}

// checkWeights compares all that chapter 3 tells of statements alone with their runs.
func checkWeights(t *testing.T, p []impl.Stmt, number int) {
	t.Helper()
	list, ok := programWanted(p)
	if !ok {
		checkNoWeights(t, p)
		return
	}
	want := weightsWanted(list, 0)
	var reached []int
	for state, weight := range want {
		if weight != 0 {
			reached = append(reached, state)
		}
	}
	if got := impl.WeightsOf(p); !slices.Equal(got, want) {
		t.Fatalf("WeightsOf %v = %v; want %v", p, got, want)
	}
	if total, got := impl.TotalOf(p), impl.Reached(p); total != sumOf(want) || !slices.Equal(got, reached) {
		t.Fatalf("TotalOf %v = %d, Reached %v; want %d, %v", p, total, got, sumOf(want), reached)
	}
	for _, state := range []int{0, number % 81, 80 - number%81} {
		want := weightsWanted(list, state)
		if got := impl.WeightsFrom(p, state); !slices.Equal(got, want) {
			t.Fatalf("WeightsFrom %v, %d = %v; want %v", p, state, got, want)
		}
	}
	checkPush(t, p, list, someNumbers(number))
}

func checkPush(t *testing.T, p []impl.Stmt, list []impl.Stmt, numbers []int) {
	t.Helper()
	got, ok := impl.PushOn(p, numbers)
	if len(list) > 10 {
		if ok || len(got) != 0 {
			t.Fatalf("PushOn of %d statements = %v", len(list), got)
		}
		return
	}
	if want := pushWanted(list, numbers); !ok || !slices.Equal(got, want) {
		t.Fatalf("PushOn %v, %v = %v, %v; want %v", p, numbers, got, ok, want)
	}
}

func checkNoWeights(t *testing.T, p []impl.Stmt) {
	t.Helper()
	pushed, ok := impl.PushOn(p, make([]int, 81))
	if ok || len(pushed) != 0 || len(impl.WeightsOf(p)) != 0 || impl.TotalOf(p) != -1 || len(impl.Reached(p)) != 0 {
		t.Fatalf("%v: PushOn %v, %v, WeightsOf %v, TotalOf %d, Reached %v", p, pushed, ok, impl.WeightsOf(p), impl.TotalOf(p), impl.Reached(p))
	}
	for _, state := range []int{-1, 0, 80, 81} {
		if got := impl.WeightsFrom(p, state); len(got) != 0 {
			t.Fatalf("WeightsFrom %v, %d = %v", p, state, got)
		}
	}
	checkNotJoined(t, p, nil)
	checkNotJoined(t, nil, p)
}

// turned returns a statement with other variables.
func turned(s impl.Stmt, by int) impl.Stmt {
	if s.Kind == impl.StLoop {
		return s
	}
	s.A = (s.A + by) % 4
	pair := s.Kind == impl.StAdd || s.Kind == impl.StDrawBy || s.Kind == impl.StWeighBy
	if pair || s.Kind == impl.StSet && s.B != -1 {
		s.B = (s.B + by) % 4
	}
	return s
}

// wideStmts is manyStmts over all variables.
func wideStmts(number int, many int) []impl.Stmt {
	p := manyStmts(number, many)
	n := uint32(number)*2246822519 + 77
	for i := range p {
		n = n*1664525 + 1013904223
		p[i] = turned(p[i], int(n>>20)%4)
	}
	return p
}

// Promise 3: weights are sums over traces.
func TestWeightsOfAll(t *testing.T) {
	for i, p := range smallPrograms() {
		checkWeights(t, p, i)
	}
	for i := range 4000 {
		p := wideStmts(i, 2+i%9)
		if impl.CountDraws(p) <= 7 {
			checkWeights(t, p, i)
		}
	}
}

// The weight of a state is that of all traces that RunTrace leads to it.
func TestWeightsOfTraces(t *testing.T) {
	for i := range 1000 {
		p := wideStmts(i, 4+i%7)
		rows, ok := impl.TracesOf(p)
		if !ok {
			continue
		}
		want := make([]int, 81)
		for _, row := range rows {
			state, weight, _ := impl.RunTrace(p, row)
			want[state] += weight
		}
		if got := impl.WeightsOf(p); !slices.Equal(got, want) {
			t.Fatalf("WeightsOf %v = %v; want %v", p, got, want)
		}
	}
}

// stateWeight is the weight of one state; all others have none.
type stateWeight struct {
	state  int
	weight int
}

func wantWeights(t *testing.T, name string, p []impl.Stmt, from int, some ...stateWeight) {
	t.Helper()
	want := make([]int, 81)
	for _, s := range some {
		want[s.state] = s.weight
	}
	if got := impl.WeightsFrom(p, from); !slices.Equal(got, want) {
		t.Errorf("%s: WeightsFrom %d = %v", name, from, got)
	}
	ahead := make([]int, 81)
	ahead[from] = 3
	pushed, ok := impl.PushOn(p, ahead)
	for i := range want {
		want[i] *= 3
	}
	if !ok || !slices.Equal(pushed, want) {
		t.Errorf("%s: PushOn from %d = %v, %v", name, from, pushed, ok)
	}
}

func TestWeightsByHand(t *testing.T) {
	draw0 := impl.Stmt{Kind: impl.StDraw, A: 0, W: [3]int{1, 2, 0}}
	over := impl.Stmt{Kind: impl.StSkip, A: 0, B: 1, C: 1}
	beyond := impl.Stmt{Kind: impl.StSkip, A: 0, B: 12, C: 0}
	never := impl.Stmt{Kind: impl.StWeigh, A: 0, W: [3]int{0, 1, 1}}
	wantWeights(t, "nothing", nil, 0, stateWeight{0, 1})
	wantWeights(t, "nothing, from the last state", nil, 80, stateWeight{80, 1})
	wantWeights(t, "a loop done no times", []impl.Stmt{loop(1, 0), draw0}, 41, stateWeight{41, 1})
	wantWeights(t, "the example", []impl.Stmt{draw0}, 0, stateWeight{0, 1}, stateWeight{1, 2})
	wantWeights(t, "the example, from another state", []impl.Stmt{draw0}, 5, stateWeight{3, 1}, stateWeight{4, 2})
	wantWeights(t, "drawn again", []impl.Stmt{draw0, draw0}, 2, stateWeight{0, 3}, stateWeight{1, 6})
	wantWeights(t, "runs that meet", []impl.Stmt{draw0, {Kind: impl.StSet, A: 0, B: -1, C: 2}}, 0, stateWeight{2, 3})
	wantWeights(t, "moved", []impl.Stmt{add01}, 4, stateWeight{5, 1})
	wantWeights(t, "weighed", []impl.Stmt{weigh3}, 27, stateWeight{27, 2})
	wantWeights(t, "weighed to nothing", []impl.Stmt{weigh3}, 54)
	wantWeights(t, "nothing ahead of draws", []impl.Stmt{never, draw0}, 3)
	wantWeights(t, "a skip over a draw", []impl.Stmt{draw0, over, draw1}, 0, stateWeight{0, 1}, stateWeight{3, 2}, stateWeight{1, 2})
	wantWeights(t, "a skip to the end", []impl.Stmt{over, draw1}, 1, stateWeight{1, 1})
	wantWeights(t, "a skip beyond the end", []impl.Stmt{draw0, beyond, draw1}, 0, stateWeight{0, 1}, stateWeight{1, 2}, stateWeight{4, 4})
	wantWeights(t, "a skip as the last one", []impl.Stmt{draw0, beyond}, 0, stateWeight{0, 1}, stateWeight{1, 2})
	if impl.TotalOf(nil) != 1 || !slices.Equal(impl.Reached(nil), []int{0}) {
		t.Error("nothing")
	}
	if impl.TotalOf([]impl.Stmt{never, draw0}) != 0 || len(impl.Reached([]impl.Stmt{never, draw0})) != 0 {
		t.Error("nothing leads to the end")
	}
	if got := impl.Reached([]impl.Stmt{draw0, drawBy, draw1}); !slices.Equal(got, []int{0, 1, 3, 4, 9, 10, 12, 13}) {
		t.Errorf("Reached = %v", got)
	}
	for _, state := range []int{math.MinInt, -1, 81, 82, math.MaxInt} {
		if got := impl.WeightsFrom([]impl.Stmt{draw0}, state); len(got) != 0 {
			t.Errorf("WeightsFrom %d = %v", state, got)
		}
	}
}

// The greatest weights that there are, by what twelve statements, or ten of them, make of all.
func TestGreatestWeights(t *testing.T) {
	nines := [3]int{9, 9, 9}
	draw := impl.Stmt{Kind: impl.StDraw, A: 2, W: nines}
	by := impl.Stmt{Kind: impl.StDrawBy, A: 2, B: 0, W: nines}
	whole := 1
	for n := 0; n <= 12; n++ {
		p := times(draw, n)
		if n > 9 {
			p = join(times(by, n-9), times(loop(3, 3), 1), times(draw, 3))
		}
		want := make([]int, 81)
		want[0] = 1
		for value := range 3 {
			if n > 0 {
				want[9*value] = whole / 3
			}
		}
		if impl.TotalOf(p) != whole || !slices.Equal(impl.WeightsOf(p), want) {
			t.Errorf("%d draws: %d, %v", n, impl.TotalOf(p), impl.WeightsOf(p))
		}
		pushed, ok := impl.PushOn(p, slices.Repeat([]int{9}, 81))
		if ok != (n <= 10) || ok && sumOf(pushed) != 729*whole || !ok && len(pushed) != 0 {
			t.Errorf("%d draws: PushOn = %v, %v", n, pushed, ok)
		}
		whole *= 27
	}
}

func TestListsPushedOn(t *testing.T) {
	p := []impl.Stmt{draw1, add01}
	for _, many := range []int{0, 1, 80, 82, 243, 100000} {
		if got, ok := impl.PushOn(p, make([]int, many)); ok || len(got) != 0 {
			t.Errorf("PushOn of %d numbers = %v", many, got)
		}
	}
	for _, at := range []int{0, 40, 80} {
		for _, number := range []int{math.MinInt, -9, -1, 0, 1, 9, 10, math.MaxInt} {
			list := someNumbers(at)
			list[at] = number
			got, ok := impl.PushOn(p, list)
			if number < 0 || number > 9 {
				if ok || len(got) != 0 {
					t.Errorf("PushOn with %d = %v", number, got)
				}
			} else if !ok || !slices.Equal(got, pushWanted(p, list)) {
				t.Errorf("PushOn with %d = %v, %v", number, got, ok)
			}
		}
	}
	got, ok := impl.PushOn(p, make([]int, 81))
	if !ok || !slices.Equal(got, make([]int, 81)) {
		t.Errorf("PushOn of noughts = %v, %v", got, ok)
	}
	ahead := someNumbers(3)
	got, ok = impl.PushOn(nil, ahead)
	if !ok || !slices.Equal(got, ahead) {
		t.Errorf("PushOn by nothing = %v, %v", got, ok)
	}
}

func checkNotJoined(t *testing.T, p []impl.Stmt, q []impl.Stmt) {
	t.Helper()
	if both, ok := impl.Joined(p, q); ok || len(both) != 0 {
		t.Fatalf("Joined %v, %v = %v, %v", p, q, both, ok)
	}
}

// checkJoined compares Joined with the document, and its weights with those of p and then q.
func checkJoined(t *testing.T, p []impl.Stmt, q []impl.Stmt, number int) {
	t.Helper()
	first, ok := programWanted(p)
	second, alsoOk := programWanted(q)
	for i, s := range first {
		ok = ok && (s.Kind != 6 || len(first)-i-1 >= s.B)
	}
	if !ok || !alsoOk || len(first)+len(second) > 10 {
		checkNotJoined(t, p, q)
		return
	}
	both, ok := impl.Joined(p, q)
	if !ok || !slices.Equal(both, join(first, second)) {
		t.Fatalf("Joined %v, %v = %v, %v", p, q, both, ok)
	}
	for _, from := range []int{0, number % 81} {
		want := make([]int, 81)
		for state, weight := range impl.WeightsFrom(p, from) {
			if weight != 0 {
				addTimes(want, impl.WeightsFrom(q, state), weight)
			}
		}
		if got := impl.WeightsFrom(both, from); !slices.Equal(got, want) {
			t.Fatalf("WeightsFrom %v and %v, %d = %v; want %v", p, q, from, got, want)
		}
	}
	checkPushTwice(t, p, q, both)
}

// What p pushes on, q pushes on to where both do, if the numbers are small enough.
func checkPushTwice(t *testing.T, p []impl.Stmt, q []impl.Stmt, both []impl.Stmt) {
	t.Helper()
	ahead := make([]int, 81)
	ahead[0] = 1
	between, _ := impl.PushOn(p, ahead)
	want, _ := impl.PushOn(both, ahead)
	if len(between) != 81 || len(want) != 81 {
		t.Fatalf("PushOn of %v, %v = %v, %v", p, both, between, want)
	}
	got, ok := impl.PushOn(q, between)
	if ok != (slices.Max(between) <= 9) || ok && !slices.Equal(got, want) {
		t.Fatalf("PushOn of %v and then %v = %v, %v; want %v", p, q, got, ok, want)
	}
}

// Promise 3: programs one behind the other are weights one behind the other.
func TestJoinedOfAll(t *testing.T) {
	var some [][]impl.Stmt
	for i, r := range runStmts {
		some = append(some, []impl.Stmt{r})
		for j, s := range runStmts {
			some = append(some, []impl.Stmt{turned(r, i%4), turned(s, j%4)})
		}
	}
	for i, p := range some {
		for j, q := range some {
			if (i+j)%3 == 0 {
				checkJoined(t, p, q, i+7*j)
			}
		}
	}
	for i := range 3000 {
		checkJoined(t, wideStmts(i, i%8), wideStmts(i+3000, i%5), i)
	}
}

func TestJoinedByHand(t *testing.T) {
	skip := func(many int) impl.Stmt { return impl.Stmt{Kind: impl.StSkip, A: 1, B: many, C: 2} }
	for name, c := range map[string]struct {
		p, q []impl.Stmt
		ok   bool
	}{
		"nothing and nothing":           {nil, nil, true},
		"nothing ahead":                 {nil, []impl.Stmt{draw1}, true},
		"nothing behind":                {[]impl.Stmt{draw1}, nil, true},
		"a skip just to the end":        {[]impl.Stmt{skip(1), draw1}, []impl.Stmt{add01}, true},
		"a skip beyond the end":         {[]impl.Stmt{skip(2), draw1}, []impl.Stmt{add01}, false},
		"a skip as the last one":        {[]impl.Stmt{draw1, skip(1)}, []impl.Stmt{add01}, false},
		"so, and nothing behind":        {[]impl.Stmt{draw1, skip(1)}, nil, false},
		"a skip that is never done":     {[]impl.Stmt{{Kind: impl.StSkip, C: 1, B: 1}}, []impl.Stmt{add01}, false},
		"a skip that is passed over":    {[]impl.Stmt{{Kind: impl.StSkip, B: 1}, skip(1)}, []impl.Stmt{add01}, false},
		"a skip beyond the end behind":  {[]impl.Stmt{add01}, []impl.Stmt{draw1, skip(12)}, true},
		"a skip out of a loop":          {[]impl.Stmt{loop(1, 2), skip(1), draw1}, []impl.Stmt{add01}, true},
		"a skip last in a loop":         {[]impl.Stmt{loop(2, 2), draw1, skip(1)}, []impl.Stmt{add01}, false},
		"so, done no times":             {[]impl.Stmt{draw1, loop(1, 0), skip(1)}, []impl.Stmt{add01}, true},
		"a skip over a loop":            {[]impl.Stmt{skip(3), loop(1, 3), draw1}, []impl.Stmt{add01}, true},
		"a skip over less than a loop":  {[]impl.Stmt{skip(1), loop(1, 3), draw1}, []impl.Stmt{add01}, true},
		"a skip over a loop and beyond": {[]impl.Stmt{skip(4), loop(1, 3), draw1}, []impl.Stmt{add01}, false},
		"a loop behind":                 {[]impl.Stmt{draw1}, []impl.Stmt{loop(3, 3), draw1, add01, drawBy}, true},
		"two loops":                     {[]impl.Stmt{loop(1, 2), draw1}, []impl.Stmt{loop(2, 2), draw1, add01}, true},
		"a loop, and too many":          {[]impl.Stmt{draw1, draw1}, []impl.Stmt{loop(3, 3), draw1, add01, drawBy}, false},
		"no program ahead":              {[]impl.Stmt{{Kind: 8}}, []impl.Stmt{draw1}, false},
		"no program behind":             {[]impl.Stmt{draw1}, []impl.Stmt{loop(1, 1)}, false},
		"a loop over both":              {[]impl.Stmt{loop(1, 1)}, []impl.Stmt{draw1}, false},
	} {
		if both, ok := impl.Joined(c.p, c.q); ok != c.ok {
			t.Errorf("%s: %v, %v", name, both, ok)
		}
		checkJoined(t, c.p, c.q, 40)
	}
	for n := 0; n <= 12; n++ {
		for m := 0; m <= 12; m++ {
			both, ok := impl.Joined(times(set0, n), times(add01, m))
			if ok != (n+m <= 10) || ok && len(both) != n+m || !ok && len(both) != 0 {
				t.Errorf("Joined of %d and %d statements = %v, %v", n, m, both, ok)
			}
		}
	}
	for behind := 0; behind <= 4; behind++ {
		long := join(times(loop(3, 3), 1), times(set0, 3), times(draw1, behind))
		checkJoined(t, long, nil, behind)
		checkJoined(t, nil, long, behind)
	}
}

// In a joined program a skip of p, and one of q, lead where they led before.
func TestJoinedSkips(t *testing.T) {
	one := impl.Stmt{Kind: impl.StSet, A: 3, B: -1, C: 1}
	p := []impl.Stmt{{Kind: impl.StSkip, A: 0, B: 1, C: 0}, one}
	q := []impl.Stmt{{Kind: impl.StSkip, A: 0, B: 5, C: 1}, draw1}
	both, _ := impl.Joined(p, q)
	wantWeights(t, "the skip of the first one", both, 0, stateWeight{0, 1}, stateWeight{3, 2})
	wantWeights(t, "that of the second one", both, 1, stateWeight{28, 1})
	wantWeights(t, "no skip", both, 2, stateWeight{29, 1}, stateWeight{32, 2})
}

func TestWeightsOfNoPrograms(t *testing.T) {
	for _, p := range noPrograms {
		checkNoWeights(t, p)
	}
}

// What is returned is new memory, and what is given stays as it is, also behind its length.
func TestWeightsShareNothing(t *testing.T) {
	whole := join([]impl.Stmt{draw1, add01, drawBy}, times(weigh3, 20))
	numbers := slices.Concat(someNumbers(8), slices.Repeat([]int{7}, 20))
	p, before := whole[:3], slices.Clone(whole)
	list, beforeList := numbers[:81], slices.Clone(numbers)
	want, wantPushed := impl.WeightsOf(p), pushWanted(p, list)
	for range 2 {
		weights, reached := impl.WeightsOf(p), impl.Reached(p)
		pushed, _ := impl.PushOn(p, list)
		both, _ := impl.Joined(p, whole[1:3])
		alone, _ := impl.Joined(p, nil)
		behind, _ := impl.Joined(nil, p)
		if !slices.Equal(weights, want) || !slices.Equal(pushed, wantPushed) || len(reached) != 4 {
			t.Errorf("weights hang on those that were told: %v, %v, %v", weights, pushed, reached)
		}
		spoil(weights)
		spoil(reached)
		spoil(pushed)
		for _, made := range [][]impl.Stmt{both, alone, behind} {
			full := made[:cap(made)]
			for i := range full {
				full[i] = impl.Stmt{Kind: -1}
			}
		}
	}
	if !slices.Equal(whole, before) || !slices.Equal(numbers, beforeList) {
		t.Error("what was given is changed")
	}
}
