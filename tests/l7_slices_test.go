package tests

import (
	"math"
	"slices"
	"testing"

	"loop.example/wholechance/impl"
)

// slicing is what chapter 7 tells of a plain program and variables that are asked.
type slicing struct {
	live  []int
	needs []int
	by    int
}

// has reports whether a variable is in a set.
func has(vars int, v int) bool { return vars>>v&1 == 1 }

// sliceWanted follows the document's sentences, from the last statement to the first one.
func sliceWanted(p []impl.Stmt, vars int) slicing {
	if len(p) == 0 {
		return slicing{live: []int{vars}, by: 1}
	}
	s, told := p[0], sliceWanted(p[1:], vars)
	for i := range told.needs {
		told.needs[i]++
	}
	_, reads, sets := stmtWanted(s)
	ahead, weighs := told.live[0], s.Kind == 4 || s.Kind == 5
	setsOne := !weighs && sets != -1 && has(ahead, sets)
	if setsOne {
		ahead -= bit(sets)
	}
	if weighs || setsOne {
		told.needs = slices.Insert(told.needs, 0, 0)
		for v := range 4 {
			if has(reads, v) && !has(ahead, v) {
				ahead += bit(v)
			}
		}
	} else if s.Kind == 2 || s.Kind == 3 {
		told.by *= s.W[0] + s.W[1] + s.W[2]
	}
	told.live = slices.Insert(told.live, 0, ahead)
	return told
}

// stmtsAt returns the statements with some indexes.
func stmtsAt(p []impl.Stmt, at []int) []impl.Stmt {
	var some []impl.Stmt
	for _, i := range at {
		some = append(some, p[i])
	}
	return some
}

// seenIn adds what each state has where all variables that are not asked are 0.
func seenIn(weights []int, vars int) []int {
	seen := make([]int, 81)
	for state, weight := range weights {
		seen[askedIn(state, vars)] += weight
	}
	return seen
}

func askedIn(state int, vars int) int {
	asked := 0
	for v, place := range [4]int{1, 3, 9, 27} {
		if has(vars, v) {
			asked += place * valuesIn(state)[v]
		}
	}
	return asked
}

func timesList(list []int, by int) []int {
	all := make([]int, len(list))
	addTimes(all, list, by)
	return all
}

// checkSlices compares all that chapter 7 tells of statements with the document.
func checkSlices(t *testing.T, p []impl.Stmt) {
	t.Helper()
	if !plainWanted(p) {
		checkNotSliced(t, p)
		return
	}
	for vars := range 16 {
		want := sliceWanted(p, vars)
		if got, ok := impl.NeedsOf(p, vars); !ok || !slices.Equal(got, want.needs) {
			t.Fatalf("NeedsOf %v, %d = %v, %v; want %v", p, vars, got, ok, want.needs)
		}
		slice, by, ok := impl.SliceOf(p, vars)
		if !ok || by != want.by || !slices.Equal(slice, stmtsAt(p, want.needs)) {
			t.Fatalf("SliceOf %v, %d = %v, %d, %v; want %v, %d", p, vars, slice, by, ok, want.needs, want.by)
		}
		for at, live := range want.live {
			if got := impl.LiveAt(p, vars, at); got != live {
				t.Fatalf("LiveAt %v, %d, %d = %d; want %d", p, vars, at, got, live)
			}
		}
		for _, at := range []int{-1, len(p) + 1, len(p) + 2} {
			if got := impl.LiveAt(p, vars, at); got != -1 {
				t.Fatalf("LiveAt %v, %d, %d = %d", p, vars, at, got)
			}
		}
	}
}

// checkNotSliced sees that statements have no slices, whatever is asked.
func checkNotSliced(t *testing.T, p []impl.Stmt) {
	t.Helper()
	for vars := -1; vars <= 16; vars++ {
		needs, ok := impl.NeedsOf(p, vars)
		slice, by, alsoOk := impl.SliceOf(p, vars)
		if ok || alsoOk || by != 0 || len(needs) != 0 || len(slice) != 0 {
			t.Fatalf("%v, %d: NeedsOf = %v, %v; SliceOf = %v, %d, %v", p, vars, needs, ok, slice, by, alsoOk)
		}
		for at := -1; at <= len(p)+1; at++ {
			if got := impl.LiveAt(p, vars, at); got != -1 {
				t.Fatalf("LiveAt %v, %d, %d = %d", p, vars, at, got)
			}
		}
	}
}

// checkSeen compares SeenOf, of all sets of variables, with the runs of statements.
func checkSeen(t *testing.T, p []impl.Stmt) {
	t.Helper()
	list, ok := programWanted(p)
	if !ok {
		checkNotSeen(t, p)
		return
	}
	weights := weightsWanted(list, 0)
	for vars := range 16 {
		if got, ok := impl.SeenOf(p, vars); !ok || !slices.Equal(got, seenIn(weights, vars)) {
			t.Fatalf("SeenOf %v, %d = %v, %v; want %v", p, vars, got, ok, seenIn(weights, vars))
		}
	}
}

func checkNotSeen(t *testing.T, p []impl.Stmt) {
	t.Helper()
	for vars := -1; vars <= 16; vars++ {
		if got, ok := impl.SeenOf(p, vars); ok || len(got) != 0 {
			t.Fatalf("SeenOf %v, %d = %v, %v", p, vars, got, ok)
		}
	}
}

// checkNothingLost compares what is asked of a plain program with what is asked
// of its slices, from the first state and another one.
func checkNothingLost(t *testing.T, p []impl.Stmt, number int) {
	t.Helper()
	state := number % 81
	weights := impl.WeightsFrom(p, state)
	for vars := range 16 {
		slice, by, ok := impl.SliceOf(p, vars)
		if !ok || by < 1 || !impl.PlainOk(slice) {
			t.Fatalf("SliceOf %v, %d = %v, %d, %v", p, vars, slice, by, ok)
		}
		from := seenIn(impl.WeightsFrom(slice, state), vars)
		if !slices.Equal(timesList(from, by), seenIn(weights, vars)) {
			t.Fatalf("%v, %d is cut to %v, %d; from the state %d that is %v, not of %v", p, vars, slice, by, state, from, weights)
		}
		want, _ := impl.SeenOf(p, vars)
		if got, ok := impl.SeenOf(slice, vars); !ok || !slices.Equal(timesList(got, by), want) {
			t.Fatalf("SeenOf %v, cut to %v, %d, of %d = %v; want %v", p, slice, by, vars, got, want)
		}
	}
}

// checkLive sees that what is asked hangs on no other variables than LiveAt
// tells, whatever state runs have come to.
func checkLive(t *testing.T, p []impl.Stmt, number int) {
	t.Helper()
	for at := range len(p) + 1 {
		state := 80 - (number+at)%81
		weights := impl.WeightsFrom(p[at:], state)
		for vars := range 16 {
			live := impl.LiveAt(p, vars, at)
			want := seenIn(impl.WeightsFrom(p[at:], askedIn(state, live)), vars)
			if got := seenIn(weights, vars); !slices.Equal(got, want) {
				t.Fatalf("LiveAt %v, %d, %d = %d; from the state %d on that is %v, not %v", p, vars, at, live, state, got, want)
			}
		}
	}
}

// Promise 7, for all programs of up to three statements out of some, for all
// pairs of statements, and for some of more.
func TestSlicesOfAll(t *testing.T) {
	all := [][]impl.Stmt{nil}
	for at := 0; len(all[at]) < 3; at++ {
		for _, s := range changeStmts {
			all = append(all, join(all[at], []impl.Stmt{s}))
		}
	}
	for i, p := range all {
		checkSlices(t, p)
		if plainWanted(p) && (len(p) < 3 || i%7 == 0) {
			checkNothingLost(t, p, i)
			checkLive(t, p, i)
		}
	}
	some := someStmts()
	for _, r := range some {
		for _, s := range some {
			checkSlices(t, []impl.Stmt{r, s})
		}
	}
	for i := range 1500 {
		p := widePlain(i, 2+i%9)
		checkSlices(t, p)
		checkNothingLost(t, p, i)
		if i%4 == 0 {
			checkLive(t, p, i)
		}
	}
}

// widePlain is plainStmts, some of them over all variables.
func widePlain(number int, many int) []impl.Stmt {
	p := plainStmts(number, many)
	for i := range p {
		p[i] = turned(p[i], number%3*i%4)
	}
	return p
}

// What is asked is told of all programs, also those with skips and loops.
func TestSeenOfAll(t *testing.T) {
	for i, p := range smallPrograms() {
		if len(p) < 3 || i%4 == 0 {
			checkSeen(t, p)
		}
	}
	for i := range 3000 {
		p := wideStmts(i, 2+i%9)
		if impl.CountDraws(p) <= 6 {
			checkSeen(t, p)
		}
		if p = widePlain(i, 2+i%9); impl.CountDraws(p) <= 6 {
			checkSeen(t, p)
		}
	}
}

// Of all variables one sees all weights, of none the total, and of fewer as much
// as of them and others together.
func TestSeenIsWeights(t *testing.T) {
	for i := range 600 {
		p := wideStmts(i, i%11)
		if !impl.ProgramOk(p) {
			checkNotSeen(t, p)
			continue
		}
		weights := impl.WeightsOf(p)
		if got, ok := impl.SeenOf(p, 15); !ok || !slices.Equal(got, weights) {
			t.Fatalf("SeenOf %v, 15 = %v, %v; want %v", p, got, ok, weights)
		}
		if got, ok := impl.SeenOf(p, 0); !ok || !slices.Equal(got, listOf(stateWeight{0, impl.TotalOf(p)})) {
			t.Fatalf("SeenOf %v, 0 = %v, %v; want %d", p, got, ok, impl.TotalOf(p))
		}
		for vars := range 16 {
			seen, _ := impl.SeenOf(p, vars)
			fewer, _ := impl.SeenOf(p, vars&i)
			if !slices.Equal(seenIn(seen, vars&i), fewer) || sumOf(seen) != sumOf(weights) {
				t.Fatalf("SeenOf %v, %d = %v; %d of it = %v", p, vars, seen, vars&i, fewer)
			}
		}
	}
}

// wantSlice compares what is told of a plain program with what hangs ahead of
// each statement and in the end, what is needed, and the number.
func wantSlice(t *testing.T, name string, p []impl.Stmt, live []int, by int, needs ...int) {
	t.Helper()
	vars := live[len(p)]
	for at, want := range live {
		if got := impl.LiveAt(p, vars, at); got != want {
			t.Errorf("%s: LiveAt %d = %d", name, at, got)
		}
	}
	if got, ok := impl.NeedsOf(p, vars); !ok || !slices.Equal(got, needs) {
		t.Errorf("%s: NeedsOf = %v, %v", name, got, ok)
	}
	slice, gotBy, ok := impl.SliceOf(p, vars)
	if !ok || gotBy != by || !slices.Equal(slice, stmtsAt(p, needs)) {
		t.Errorf("%s: SliceOf = %v, %d, %v", name, slice, gotBy, ok)
	}
	checkSlices(t, p)
	checkSeen(t, p)
	checkNothingLost(t, p, 50)
	checkLive(t, p, 50)
}

func TestSlicesByHand(t *testing.T) {
	draw := func(v int, w ...int) impl.Stmt { return impl.Stmt{Kind: impl.StDraw, A: v, W: [3]int(w)} }
	weigh := func(v int) impl.Stmt { return impl.Stmt{Kind: impl.StWeigh, A: v, W: someW} }
	setBy := func(a int, b int) impl.Stmt { return impl.Stmt{Kind: impl.StSet, A: a, B: b} }
	two := func(kind int, a int, b int) impl.Stmt { return impl.Stmt{Kind: kind, A: a, B: b, W: [3]int{1, 1, 3}} }
	many := func(list ...impl.Stmt) []impl.Stmt { return list }
	wantSlice(t, "nothing", nil, []int{0}, 1)
	wantSlice(t, "nothing, and all asked", nil, []int{15}, 1)
	wantSlice(t, "the example", many(draw(1, 1, 1, 2)), []int{1, 1}, 4)
	wantSlice(t, "so, and asked", many(draw(1, 1, 1, 2)), []int{0, 2}, 1, 0)
	wantSlice(t, "a draw that nothing reads", many(draw(1, 1, 1, 2), draw(0, 1, 2, 0), weigh(0)), []int{0, 0, 1, 1}, 4, 1, 2)
	wantSlice(t, "one that another one reads", many(draw(1, 1, 1, 2), two(impl.StDrawBy, 0, 1)), []int{0, 2, 1}, 1, 0, 1)
	wantSlice(t, "both not asked", many(draw(1, 1, 1, 2), two(impl.StDrawBy, 0, 1)), []int{4, 4, 4}, 20)
	wantSlice(t, "the first one asked", many(draw(1, 1, 1, 2), two(impl.StDrawBy, 0, 1)), []int{0, 2, 2}, 5, 0)
	wantSlice(t, "both asked", many(draw(1, 1, 1, 2), two(impl.StDrawBy, 0, 1)), []int{0, 2, 3}, 1, 0, 1)
	wantSlice(t, "drawn again", many(draw(2, 1, 1, 2), draw(2, 3, 3, 0)), []int{0, 0, 4}, 4, 1)
	wantSlice(t, "set by what is drawn", many(draw(3, 9, 9, 9), setBy(1, 3), draw(3, 1, 1, 1)), []int{0, 8, 2, 2}, 3, 0, 1)
	wantSlice(t, "what sets nothing that is asked", many(set0, add01, setBy(2, 0)), []int{8, 8, 8, 8}, 1)
	wantSlice(t, "what weighs, and sets nothing", many(weigh(0), weigh2), []int{5, 5, 0}, 1, 0, 1)
	wantSlice(t, "weighed, and then set", many(draw(1, 1, 1, 2), weigh(1), setBy(1, 0)), []int{0, 2, 0, 0}, 1, 0, 1)
	wantSlice(t, "weighed, and then drawn", many(draw(1, 1, 1, 2), weigh(1), draw(1, 2, 2, 2)), []int{0, 2, 0, 0}, 6, 0, 1)
	wantSlice(t, "weighed ahead of a draw", many(weigh(1), draw(1, 2, 2, 2)), []int{2, 0, 0}, 6, 0)
	wantSlice(t, "weighed by both", many(draw(0, 1, 1, 1), draw(3, 2, 2, 2), two(impl.StWeighBy, 0, 3)), []int{0, 1, 9, 0}, 1, 0, 1, 2)
	wantSlice(t, "the greatest variable", many(draw(0, 5, 0, 0), draw(3, 0, 0, 7)), []int{0, 0, 8}, 5, 1)
}

// What reads what it sets goes on hanging on it, and what does not, does not.
func TestSlicesReadWhatTheySet(t *testing.T) {
	draw := func(v int) impl.Stmt { return impl.Stmt{Kind: impl.StDraw, A: v, W: [3]int{1, 2, 4}} }
	for v := range 4 {
		own := impl.Stmt{Kind: impl.StSet, A: v, B: v, C: 1}
		other := (v + 1) % 4
		setOther := impl.Stmt{Kind: impl.StSet, A: v, B: other, C: 1}
		add := impl.Stmt{Kind: impl.StAdd, A: v, B: other}
		value := impl.Stmt{Kind: impl.StSet, A: v, B: -1, C: 1}
		one, both := bit(v), bit(v)+bit(other)
		wantSlice(t, "set to itself and 1", []impl.Stmt{draw(v), own}, []int{0, one, one}, 1, 0, 1)
		wantSlice(t, "so, twice", []impl.Stmt{draw(v), own, own}, []int{0, one, one, one}, 1, 0, 1, 2)
		wantSlice(t, "so, and not asked", []impl.Stmt{draw(v), own}, []int{0, 0, 0}, 7)
		wantSlice(t, "added to", []impl.Stmt{draw(v), draw(other), add}, []int{0, one, both, one}, 1, 0, 1, 2)
		wantSlice(t, "so, and what is added asked", []impl.Stmt{draw(v), draw(other), add}, []int{0, 0, bit(other), bit(other)}, 7, 1)
		wantSlice(t, "set to another one", []impl.Stmt{draw(v), draw(other), setOther}, []int{0, 0, bit(other), one}, 7, 1, 2)
		wantSlice(t, "set to a value", []impl.Stmt{draw(v), draw(other), value}, []int{0, 0, 0, one}, 49, 2)
		wantSlice(t, "nobody draws it", []impl.Stmt{own}, []int{one, one}, 1, 0)
		wantSlice(t, "nobody draws both", []impl.Stmt{add}, []int{both, one}, 1, 0)
	}
}

// What nobody draws is 0, or what it is set to; weighings of it stay, as their weights are not told.
func TestSlicesOfUndrawn(t *testing.T) {
	weigh := func(v int, w ...int) impl.Stmt { return impl.Stmt{Kind: impl.StWeigh, A: v, W: [3]int(w)} }
	by := func(a int, b int, w ...int) impl.Stmt {
		return impl.Stmt{Kind: impl.StWeighBy, A: a, B: b, W: [3]int(w)}
	}
	wantSlice(t, "weighed alone", []impl.Stmt{weigh(3, 5, 1, 1)}, []int{9, 1}, 1, 0)
	wantSlice(t, "weighed to nothing", []impl.Stmt{draw1, weigh(3, 0, 1, 1)}, []int{9, 9, 1}, 3, 1)
	wantSlice(t, "weighed by two", []impl.Stmt{draw1, by(3, 2, 4, 1, 1)}, []int{12, 14, 2}, 1, 0, 1)
	wantSlice(t, "weighed when set", []impl.Stmt{set0, weigh(0, 1, 6, 1), draw1}, []int{0, 1, 0, 0}, 3, 0, 1)
	wantSlice(t, "weighed, and then set", []impl.Stmt{weigh(0, 7, 1, 1), set0}, []int{1, 0, 1}, 1, 0, 1)
	wantSlice(t, "always the same weight", []impl.Stmt{weigh(2, 3, 3, 3)}, []int{4, 0}, 1, 0)
	for _, c := range []struct {
		p     []impl.Stmt
		vars  int
		some  []stateWeight
		total int
	}{
		{[]impl.Stmt{weigh(3, 5, 1, 1)}, 1, []stateWeight{{0, 5}}, 5},
		{[]impl.Stmt{draw1, weigh(3, 0, 1, 1)}, 2, nil, 0},
		{[]impl.Stmt{draw1, by(3, 2, 4, 1, 1)}, 2, []stateWeight{{0, 4}, {3, 8}}, 12},
		{[]impl.Stmt{draw1, by(3, 2, 4, 1, 1)}, 13, []stateWeight{{0, 12}}, 12},
		{[]impl.Stmt{set0, weigh(0, 1, 6, 1), draw1}, 1, []stateWeight{{1, 18}}, 18},
		{[]impl.Stmt{set0, weigh(0, 1, 6, 1), draw1}, 3, []stateWeight{{1, 6}, {4, 12}}, 18},
	} {
		got, ok := impl.SeenOf(c.p, c.vars)
		if !ok || !slices.Equal(got, listOf(c.some...)) || impl.TotalOf(c.p) != c.total {
			t.Errorf("SeenOf %v, %d = %v, %v", c.p, c.vars, got, ok)
		}
	}
}

// Skips and loops have weights, but no slices.
func TestSeenByHand(t *testing.T) {
	over := impl.Stmt{Kind: impl.StSkip, A: 1, B: 1, C: 1}
	p := []impl.Stmt{draw1, over, {Kind: impl.StDraw, A: 3, W: [3]int{0, 2, 3}}}
	for vars, want := range map[int][]stateWeight{
		0:  {{0, 7}},
		2:  {{0, 5}, {3, 2}},
		8:  {{0, 2}, {27, 2}, {54, 3}},
		10: {{3, 2}, {27, 2}, {54, 3}},
		5:  {{0, 7}},
		15: {{3, 2}, {27, 2}, {54, 3}},
	} {
		if got, ok := impl.SeenOf(p, vars); !ok || !slices.Equal(got, listOf(want...)) {
			t.Errorf("SeenOf with a skip, %d = %v, %v", vars, got, ok)
		}
	}
	checkNotSliced(t, p)
	looped := []impl.Stmt{loop(2, 3), draw1, add01}
	for vars, want := range map[int][]stateWeight{
		0: {{0, 27}},
		1: {{0, 9}, {1, 6}, {2, 12}},
		2: {{0, 9}, {3, 18}},
	} {
		if got, ok := impl.SeenOf(looped, vars); !ok || !slices.Equal(got, listOf(want...)) {
			t.Errorf("SeenOf with a loop, %d = %v, %v", vars, got, ok)
		}
	}
	checkNotSliced(t, looped)
	told, _ := impl.Unrolled(looped)
	wantSlice(t, "the loop, told out", told, []int{1, 3, 1, 3, 1, 3, 1}, 1, 0, 1, 2, 3, 4, 5)
	wantSlice(t, "so, and what is drawn asked", told, []int{0, 0, 0, 0, 0, 2, 2}, 9, 4)
}

// The greatest numbers that there are.
func TestGreatestSlices(t *testing.T) {
	nines := [3]int{9, 9, 9}
	draw := impl.Stmt{Kind: impl.StDraw, A: 3, W: nines}
	by := impl.Stmt{Kind: impl.StDrawBy, A: 3, B: 0, W: nines}
	number := 1
	for n := 0; n <= 10; n++ {
		for _, p := range [][]impl.Stmt{times(draw, n), times(by, n)} {
			slice, got, ok := impl.SliceOf(p, 7)
			seen, alsoOk := impl.SeenOf(p, 7)
			if !ok || !alsoOk || got != number || len(slice) != 0 || !slices.Equal(seen, listOf(stateWeight{0, number})) {
				t.Errorf("%d draws: SliceOf = %v, %d, SeenOf = %v", n, slice, got, seen)
			}
			needs, _ := impl.NeedsOf(p, 8)
			if n > 0 && !slices.Equal(needs, []int{n - 1}) {
				t.Errorf("%d draws: NeedsOf = %v", n, needs)
			}
		}
		weighs := times(impl.Stmt{Kind: impl.StWeigh, A: 3, W: nines}, n)
		if slice, got, ok := impl.SliceOf(weighs, 0); !ok || got != 1 || !slices.Equal(slice, weighs) {
			t.Errorf("%d weighings: SliceOf = %v, %d", n, slice, got)
		}
		number *= 27
	}
	twelve := join([]impl.Stmt{loop(2, 3)}, times(draw, 2), []impl.Stmt{loop(2, 3)}, times(by, 2))
	if got, ok := impl.SeenOf(twelve, 7); !ok || got[0] != 27*number || impl.TotalOf(twelve) != got[0] {
		t.Errorf("twelve draws: SeenOf = %v, %v", got, ok)
	}
}

func TestSetsThatAreNone(t *testing.T) {
	p := []impl.Stmt{draw1, weigh3, add01}
	for _, vars := range []int{math.MinInt, -16, -15, -2, -1, 16, 17, 31, 32, 1 << 31, 1 << 32, math.MaxInt - 1, math.MaxInt} {
		for _, q := range [][]impl.Stmt{nil, p} {
			needs, ok := impl.NeedsOf(q, vars)
			slice, by, alsoOk := impl.SliceOf(q, vars)
			seen, seenOk := impl.SeenOf(q, vars)
			if ok || alsoOk || seenOk || by != 0 || len(needs)+len(slice)+len(seen) != 0 {
				t.Errorf("%d: NeedsOf = %v, %v; SliceOf = %v, %d, %v; SeenOf = %v, %v", vars, needs, ok, slice, by, alsoOk, seen, seenOk)
			}
			for at := range len(q) + 1 {
				if got := impl.LiveAt(q, vars, at); got != -1 {
					t.Errorf("LiveAt %v, %d, %d = %d", q, vars, at, got)
				}
			}
		}
	}
	for vars := range 16 {
		for _, at := range []int{math.MinInt, -1, 4, 10, 11, 64, math.MaxInt} {
			if got := impl.LiveAt(p, vars, at); got != -1 {
				t.Errorf("LiveAt %d, %d = %d", vars, at, got)
			}
		}
		checkSlices(t, p)
	}
}

// What is no plain program has no slices, and what is no program is not seen.
func TestSlicesOfNoPrograms(t *testing.T) {
	for _, p := range noPrograms {
		checkNotSliced(t, p)
		checkNotSeen(t, p)
	}
	for _, other := range []impl.Stmt{skip1, {Kind: impl.StSkip, A: 3, B: 12}, loop(1, 0), loop(1, 3)} {
		p := []impl.Stmt{draw1, other, add01}
		checkNotSliced(t, p)
		checkSeen(t, p)
	}
	for _, other := range []impl.Stmt{{Kind: impl.StDraw, A: 0}, {Kind: impl.StAdd, A: 1, B: 1}, loop(2, 1), {A: 0, B: 4}} {
		p := []impl.Stmt{draw1, other, add01}
		checkNotSliced(t, p)
		checkNotSeen(t, p)
	}
	for n := 9; n <= 80; n++ {
		p := times(add01, n)
		needs, ok := impl.NeedsOf(p, 1)
		if ok != (n <= 10) || ok != (len(needs) == n) {
			t.Errorf("NeedsOf %d statements = %v, %v", n, needs, ok)
		}
		checkSlices(t, p)
		checkSeen(t, p)
	}
}

// What is returned is new memory, and what is given stays as it is, also behind its length.
func TestSlicesShareNothing(t *testing.T) {
	whole := join([]impl.Stmt{draw1, drawBy, add01, weigh3, set0, {Kind: impl.StSet, A: 1, B: 1, C: 2}}, times(weigh3, 20))
	before := slices.Clone(whole)
	for many := range 11 {
		p := whole[:many]
		for vars := range 16 {
			want, weights := sliceWanted(p, vars), weightsWanted(p, 0)
			for range 2 {
				needs, _ := impl.NeedsOf(p, vars)
				slice, _, _ := impl.SliceOf(p, vars)
				seen, _ := impl.SeenOf(p, vars)
				if !slices.Equal(needs, want.needs) || !slices.Equal(slice, stmtsAt(p, want.needs)) || !slices.Equal(seen, seenIn(weights, vars)) {
					t.Fatalf("%v, %d hangs on what was told: %v, %v, %v", p, vars, needs, slice, seen)
				}
				spoil(needs)
				spoil(seen)
				spoilStmts(slice)
			}
		}
	}
	if !slices.Equal(whole, before) {
		t.Error("what was given is changed")
	}
}
