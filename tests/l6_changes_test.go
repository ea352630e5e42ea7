package tests

import (
	"math"
	"slices"
	"testing"

	"loop.example/wholechance/impl"
)

func plainWanted(p []impl.Stmt) bool {
	_, ok := programWanted(p)
	return ok && !slices.ContainsFunc(p, func(s impl.Stmt) bool { return s.Kind > 5 })
}

// swapWanted reports whether s neither reads nor sets what first sets, and sets nothing that that reads or sets.
func swapWanted(first impl.Stmt, s impl.Stmt) bool {
	_, firstReads, firstSets := stmtWanted(first)
	_, reads, sets := stmtWanted(s)
	for v := range 4 {
		alsoHas := firstReads/bit(v)%2 == 1 || firstSets == v
		if firstSets == v && (reads/bit(v)%2 == 1 || sets == v) || sets == v && alsoHas {
			return false
		}
	}
	return true
}

// changedWanted is the document's table, read line by line: what stands for two
// statements, and by what the total is divided.
func changedWanted(change int, first impl.Stmt, second impl.Stmt) ([]impl.Stmt, int, bool) {
	_, _, firstSets := stmtWanted(first)
	_, reads, sets := stmtWanted(second)
	switch change {
	case 0:
		return []impl.Stmt{second, first}, 1, swapWanted(first, second)
	case 1:
		ok := (first.Kind == 2 || first.Kind == 4) && second.Kind == 4 && first.A == second.A
		for v := range 3 {
			first.W[v] *= second.W[v]
			ok = ok && first.W[v] <= 9
		}
		return []impl.Stmt{first}, 1, ok && first.W != noneW
	case 2:
		by := 1
		if first.Kind == 2 || first.Kind == 3 {
			by = first.W[0] + first.W[1] + first.W[2]
		}
		return []impl.Stmt{second}, by, firstSets != -1 && sets == firstSets && reads/bit(sets)%2 == 0
	case 4:
		ok := first.Kind == 0 && first.B == -1 && (second.Kind == 3 || second.Kind == 5) && second.B == first.A
		alone := impl.Stmt{Kind: second.Kind - 1, A: second.A}
		for v := range 3 {
			alone.W[v] = second.W[(v+max(first.C, 0))%3]
		}
		return []impl.Stmt{first, alone}, 1, ok
	}
	return nil, 0, false
}

// scaledWanted tries all numbers, from the greatest weight down.
func scaledWanted(s impl.Stmt) (impl.Stmt, int, bool) {
	for by := 9; by > 1 && s.W != noneW; by-- {
		if s.W[0]%by == 0 && s.W[1]%by == 0 && s.W[2]%by == 0 {
			s.W = [3]int{s.W[0] / by, s.W[1] / by, s.W[2] / by}
			return s, by, true
		}
	}
	return s, 0, false
}

func changeWanted(p []impl.Stmt, change int, at int) ([]impl.Stmt, int, bool) {
	if !plainWanted(p) || at < 0 || at >= len(p) {
		return nil, 0, false
	}
	if change == 3 {
		s, by, ok := scaledWanted(p[at])
		return join(p[:at], []impl.Stmt{s}, p[at+1:]), by, ok
	}
	if at+1 == len(p) {
		return nil, 0, false
	}
	now, by, ok := changedWanted(change, p[at], p[at+1])
	return join(p[:at], now, p[at+2:]), by, ok
}

func changesWanted(p []impl.Stmt) [][]int {
	var all [][]int
	for change := range 5 {
		for at := range p {
			if _, _, ok := changeWanted(p, change, at); ok {
				all = append(all, []int{change, at})
			}
		}
	}
	return all
}

// tidyWanted does the first of all changes that is no swap, again and again.
func tidyWanted(p []impl.Stmt) ([]impl.Stmt, int) {
	whole := 1
	for {
		all := changesWanted(p)
		next := slices.IndexFunc(all, func(c []int) bool { return c[0] != 0 })
		if next < 0 {
			return p, whole
		}
		now, by, _ := changeWanted(p, all[next][0], all[next][1])
		p, whole = now, whole*by
	}
}

// checkChange compares what is told of one change with the document's table.
func checkChange(t *testing.T, p []impl.Stmt, change int, at int) {
	t.Helper()
	want, by, ok := changeWanted(p, change, at)
	if !ok {
		want, by = nil, 0
	}
	if got := impl.ChangeOk(p, change, at); got != ok {
		t.Fatalf("ChangeOk %v, %d, %d = %v", p, change, at, got)
	}
	if got, gotOk := impl.ChangeDo(p, change, at); gotOk != ok || !slices.Equal(got, want) {
		t.Fatalf("ChangeDo %v, %d, %d = %v, %v; want %v, %v", p, change, at, got, gotOk, want, ok)
	}
	if got, gotOk := impl.FactorBy(p, change, at); gotOk != ok || got != by {
		t.Fatalf("FactorBy %v, %d, %d = %d, %v; want %d, %v", p, change, at, got, gotOk, by, ok)
	}
}

// checkChanges compares all that chapter 6 tells of statements with the document.
func checkChanges(t *testing.T, p []impl.Stmt) {
	t.Helper()
	for change := -1; change <= 6; change++ {
		for at := -1; at <= len(p)+1; at++ {
			checkChange(t, p, change, at)
		}
	}
	if !plainWanted(p) {
		checkNoChanges(t, p)
		return
	}
	if got, want := impl.ChangesOf(p), changesWanted(p); !slices.EqualFunc(got, want, slices.Equal) {
		t.Fatalf("ChangesOf %v = %v; want %v", p, got, want)
	}
	want, by := tidyWanted(p)
	if got, gotBy, ok := impl.Tidy(p); !ok || gotBy != by || !slices.Equal(got, want) {
		t.Fatalf("Tidy %v = %v, %d, %v; want %v, %d", p, got, gotBy, ok, want, by)
	}
}

func checkNoChanges(t *testing.T, p []impl.Stmt) {
	t.Helper()
	if got := impl.ChangesOf(p); len(got) != 0 {
		t.Fatalf("ChangesOf %v = %v", p, got)
	}
	if got, by, ok := impl.Tidy(p); ok || by != 0 || len(got) != 0 {
		t.Fatalf("Tidy %v = %v, %d", p, got, by)
	}
	for change := range 5 {
		for at := range max(len(p), 1) {
			got, ok := impl.ChangeDo(p, change, at)
			by, alsoOk := impl.FactorBy(p, change, at)
			if ok || alsoOk || by != 0 || len(got) != 0 || impl.ChangeOk(p, change, at) {
				t.Fatalf("%v: ChangeDo %d, %d = %v, %v; FactorBy = %d, %v", p, change, at, got, ok, by, alsoOk)
			}
		}
	}
}

// checkKept compares the weights of a program with those of what a change, or
// all, has made of it: they are less by the number that is told, from each state.
func checkKept(t *testing.T, p []impl.Stmt, q []impl.Stmt, by int, number int) {
	t.Helper()
	for _, state := range []int{0, number % 81, 80 - number%81} {
		before, behind := impl.WeightsFrom(p, state), impl.WeightsFrom(q, state)
		if len(behind) != 81 {
			t.Fatalf("%v is made %v", p, q)
		}
		for i := range behind {
			behind[i] *= by
		}
		if by < 1 || !slices.Equal(before, behind) {
			t.Fatalf("%v is made %v, and less by %d; from the state %d that is %v, not %v", p, q, by, state, behind, before)
		}
	}
	total := impl.TotalOf(p)
	if total != by*impl.TotalOf(q) || impl.SameAnswer(p, q) != (total > 0) {
		t.Fatalf("%v is made %v, and less by %d; the total is %d, and is made %d", p, q, by, total, impl.TotalOf(q))
	}
}

// checkAllKept does each change that can be done, and all that Tidy does.
func checkAllKept(t *testing.T, p []impl.Stmt, number int) {
	t.Helper()
	for _, c := range impl.ChangesOf(p) {
		q, ok := impl.ChangeDo(p, c[0], c[1])
		by, alsoOk := impl.FactorBy(p, c[0], c[1])
		if !ok || !alsoOk || !impl.PlainOk(q) {
			t.Fatalf("%v: %v makes it %v", p, c, q)
		}
		checkKept(t, p, q, by, number)
	}
	q, by, ok := impl.Tidy(p)
	if ok != impl.PlainOk(p) {
		t.Fatalf("Tidy %v = %v, %v", p, q, ok)
	}
	if ok {
		checkKept(t, p, q, by, number)
	}
}

// Statements of which many can be changed together.
var changeStmts = []impl.Stmt{
	{Kind: impl.StSet, A: 0, B: -1, C: 1},
	{Kind: impl.StSet, A: 1, B: -1, C: 2},
	{Kind: impl.StSet, A: 1, B: 0, C: 0},
	{Kind: impl.StSet, A: 1, B: 1, C: 1},
	{Kind: impl.StAdd, A: 1, B: 0},
	{Kind: impl.StAdd, A: 0, B: 2},
	{Kind: impl.StDraw, A: 0, W: [3]int{2, 4, 0}},
	{Kind: impl.StDraw, A: 1, W: [3]int{1, 3, 2}},
	{Kind: impl.StDraw, A: 0, W: [3]int{0, 0, 9}},
	{Kind: impl.StDrawBy, A: 1, B: 0, W: [3]int{0, 1, 5}},
	{Kind: impl.StDrawBy, A: 0, B: 1, W: [3]int{3, 6, 9}},
	{Kind: impl.StWeigh, A: 0, W: [3]int{1, 2, 3}},
	{Kind: impl.StWeigh, A: 0, W: [3]int{4, 0, 1}},
	{Kind: impl.StWeigh, A: 0, W: [3]int{0, 0, 7}},
	{Kind: impl.StWeigh, A: 1, W: [3]int{3, 3, 3}},
	{Kind: impl.StWeighBy, A: 1, B: 0, W: [3]int{8, 6, 4}},
	{Kind: impl.StWeighBy, A: 2, B: 1, W: [3]int{0, 1, 2}},
	skip1,
	loop(1, 1),
}

// plainStmts returns statements of a plain program that hang on a number alone;
// in most programs they are of two variables, so that many stand together.
func plainStmts(number int, many int) []impl.Stmt {
	rows := [][3]int{{1, 2, 0}, {2, 4, 0}, {3, 3, 3}, {1, 1, 2}, {0, 2, 0}, {9, 6, 3}, {4, 4, 8}, {1, 2, 3}, {2, 1, 1}, {0, 0, 9}}
	n := uint32(number)*2654435761 + 4321
	next := func(below int) int {
		n = n*1664525 + 1013904223
		return int(n>>16) % below
	}
	vars := 2 + number%5/2
	var p []impl.Stmt
	for range many {
		s := impl.Stmt{Kind: next(8) % 6, A: next(vars)}
		switch s.Kind {
		case 0:
			s.B, s.C = next(vars+2)-2, next(3)
			s.B = max(s.B, -1)
		case 1, 3, 5:
			s.B = (s.A + 1 + next(vars-1)) % vars
		}
		if s.Kind > 1 {
			s.W = rows[next(len(rows))]
		}
		p = append(p, s)
	}
	return p
}

// Promise 6, for all programs of up to three statements out of some, for all
// pairs of statements, and for some of more.
func TestChangesOfAll(t *testing.T) {
	all := [][]impl.Stmt{nil}
	for at := 0; len(all[at]) < 3; at++ {
		for _, s := range changeStmts {
			all = append(all, join(all[at], []impl.Stmt{s}))
		}
	}
	for i, p := range all {
		checkChanges(t, p)
		if len(p) < 3 || i%4 == 0 {
			checkAllKept(t, p, i)
		}
	}
	some := someStmts()
	for i, r := range some {
		for j, s := range some {
			checkChanges(t, []impl.Stmt{r, s})
			if (i+j)%4 == 0 {
				checkAllKept(t, []impl.Stmt{r, s}, i+7*j)
			}
		}
	}
	for i := range 3000 {
		checkChanges(t, plainStmts(i, 2+i%9))
		checkAllKept(t, plainStmts(i, 2+i%9), i)
	}
}

// The weights of what is changed are those of its runs, too.
func TestChangesOfRuns(t *testing.T) {
	for i := range 400 {
		p := plainStmts(i, 2+i%5)
		q, by, _ := impl.Tidy(p)
		want := make([]int, 81)
		addTimes(want, weightsWanted(q, i%81), by)
		if got := weightsWanted(p, i%81); !slices.Equal(got, want) {
			t.Fatalf("the runs of %v end with %v; of %v, times %d, with %v", p, got, q, by, want)
		}
	}
}

// wantChange compares what stands behind a change at the first of two statements
// with what is told, and by is 0 if it cannot be done.
func wantChange(t *testing.T, name string, change int, p []impl.Stmt, by int, want ...impl.Stmt) {
	t.Helper()
	got, ok := impl.ChangeDo(p, change, 0)
	gotBy, alsoOk := impl.FactorBy(p, change, 0)
	if ok != (by > 0) || alsoOk != ok || impl.ChangeOk(p, change, 0) != ok || gotBy != by || !slices.Equal(got, want) {
		t.Errorf("%s: ChangeDo = %v, %v, FactorBy = %d, %v", name, got, ok, gotBy, alsoOk)
	}
	// The same, with statements ahead and behind that stay.
	got, ok = impl.ChangeDo(join(times(weigh3, 2), p, times(draw1, 3)), change, 2)
	if len(p) > 1 && (ok != (by > 0) || ok && !slices.Equal(got, join(times(weigh3, 2), want, times(draw1, 3)))) {
		t.Errorf("%s, within others: ChangeDo = %v, %v", name, got, ok)
	}
	checkChanges(t, p)
	checkAllKept(t, p, 50)
}

func TestSwapsByHand(t *testing.T) {
	draw := func(v int) impl.Stmt { return impl.Stmt{Kind: impl.StDraw, A: v, W: someW} }
	weigh := func(v int) impl.Stmt { return impl.Stmt{Kind: impl.StWeigh, A: v, W: someW} }
	setBy := func(a int, b int) impl.Stmt { return impl.Stmt{Kind: impl.StSet, A: a, B: b} }
	for name, c := range map[string]struct {
		first, second impl.Stmt
		can           bool
	}{
		"two draws":                          {draw(0), draw(1), true},
		"two draws of the same":              {draw(0), draw(0), false},
		"two weighings of the same":          {weigh(0), weigh(0), true},
		"two weighings by the same":          {weigh2, impl.Stmt{Kind: impl.StWeighBy, A: 0, B: 2, W: someW}, true},
		"a weighing of what is drawn":        {draw(0), weigh(0), false},
		"a draw of what is weighed":          {weigh(0), draw(0), false},
		"a weighing of another one":          {draw(0), weigh(1), true},
		"a draw of another one":              {weigh(1), draw(0), true},
		"a weighing by what is drawn":        {draw(0), weigh2, false},
		"a draw of what is weighed by":       {weigh2, draw(0), false},
		"a draw by what is drawn":            {draw(1), drawBy, false},
		"a draw of what is drawn by":         {drawBy, draw(1), false},
		"two that read the same":             {drawBy, setBy(0, 1), true},
		"set to what is set":                 {set0, setBy(1, 0), false},
		"what is set, set to another one":    {setBy(1, 0), set0, false},
		"set to a value, both":               {set0, impl.Stmt{Kind: impl.StSet, A: 3, B: -1}, true},
		"set to itself, and another one":     {setBy(2, 2), setBy(3, 3), true},
		"added to what is read":              {setBy(3, 0), add01, false},
		"added, and read":                    {add01, setBy(3, 0), false},
		"added, and what is added read":      {add01, setBy(3, 1), true},
		"added, and what is added set":       {add01, draw(1), false},
		"added, twice":                       {add01, add01, false},
		"the same to two":                    {add01, impl.Stmt{Kind: impl.StAdd, A: 2, B: 1}, true},
		"the greatest variable, and another": {draw(3), weigh(2), true},
	} {
		if c.can {
			wantChange(t, name, impl.ChSwap, []impl.Stmt{c.first, c.second}, 1, c.second, c.first)
		} else {
			wantChange(t, name, impl.ChSwap, []impl.Stmt{c.first, c.second}, 0)
		}
	}
	wantChange(t, "none behind", impl.ChSwap, []impl.Stmt{set0}, 0)
	wantChange(t, "none", impl.ChSwap, nil, 0)
}

// Products that are no weights are those with one above 9, and those that are all 0.
func TestFoldsByHand(t *testing.T) {
	draw := func(w ...int) impl.Stmt { return impl.Stmt{Kind: impl.StDraw, A: 2, W: [3]int(w)} }
	weigh := func(w ...int) impl.Stmt { return impl.Stmt{Kind: impl.StWeigh, A: 2, W: [3]int(w)} }
	two := func(first impl.Stmt, second impl.Stmt) []impl.Stmt { return []impl.Stmt{first, second} }
	fold := impl.ChFold
	wantChange(t, "a draw and a weighing", fold, two(draw(1, 2, 3), weigh(4, 3, 2)), 1, draw(4, 6, 6))
	wantChange(t, "two weighings", fold, two(weigh(1, 2, 3), weigh(9, 4, 0)), 1, weigh(9, 8, 0))
	wantChange(t, "products of 9", fold, two(draw(9, 3, 1), weigh(1, 3, 9)), 1, draw(9, 9, 9))
	wantChange(t, "a product of 10", fold, two(draw(2, 1, 1), weigh(5, 1, 1)), 0)
	wantChange(t, "one of 10 in the middle", fold, two(weigh(0, 5, 1), weigh(1, 2, 1)), 0)
	wantChange(t, "one of 10 at the end", fold, two(weigh(0, 1, 5), weigh(9, 2, 2)), 0)
	wantChange(t, "the greatest products", fold, two(weigh(9, 9, 9), weigh(9, 9, 9)), 0)
	wantChange(t, "a product of 81 alone", fold, two(draw(0, 9, 0), weigh(0, 9, 0)), 0)
	wantChange(t, "all products 0", fold, two(draw(0, 3, 0), weigh(5, 0, 5)), 0)
	wantChange(t, "so, of two weighings", fold, two(weigh(1, 0, 1), weigh(0, 1, 0)), 0)
	wantChange(t, "all but one 0", fold, two(draw(0, 3, 2), weigh(5, 0, 4)), 1, draw(0, 0, 8))
	wantChange(t, "two draws", fold, two(draw(1, 1, 1), draw(1, 1, 1)), 0)
	wantChange(t, "a draw behind", fold, two(weigh(1, 1, 1), draw(1, 1, 1)), 0)
	wantChange(t, "another variable", fold, two(draw(1, 1, 1), impl.Stmt{Kind: impl.StWeigh, A: 1, W: someW}), 0)
	wantChange(t, "a draw by", fold, two(drawBy, weigh(1, 1, 1)), 0)
	wantChange(t, "a weighing by", fold, two(weigh2, weigh(1, 1, 1)), 0)
	wantChange(t, "a weighing by behind", fold, two(draw(1, 1, 1), weigh2), 0)
	wantChange(t, "set", fold, two(impl.Stmt{A: 2, B: -1}, weigh(1, 1, 1)), 0)
	wantChange(t, "none behind", fold, []impl.Stmt{draw(1, 1, 1)}, 0)
}

// A draw that is over takes the sum of its weights with it; what reads what it sets is not over.
func TestOversByHand(t *testing.T) {
	over := impl.ChOver
	draw := impl.Stmt{Kind: impl.StDraw, A: 1, W: [3]int{3, 0, 4}}
	by := impl.Stmt{Kind: impl.StDrawBy, A: 1, B: 2, W: [3]int{9, 9, 8}}
	set := impl.Stmt{Kind: impl.StSet, A: 1, B: -1, C: 2}
	setBy := impl.Stmt{Kind: impl.StSet, A: 1, B: 3, C: 1}
	setOwn := impl.Stmt{Kind: impl.StSet, A: 1, B: 1, C: 1}
	add := impl.Stmt{Kind: impl.StAdd, A: 1, B: 0}
	for _, second := range []impl.Stmt{draw, by, set, setBy} {
		for _, c := range []struct {
			first impl.Stmt
			by    int
		}{{draw, 7}, {by, 26}, {set, 1}, {setBy, 1}, {setOwn, 1}, {add, 1}} {
			wantChange(t, "over", over, []impl.Stmt{c.first, second}, c.by, second)
		}
		other := turned(second, 1)
		wantChange(t, "another variable", over, []impl.Stmt{draw, other}, 0)
		wantChange(t, "a weighing first", over, []impl.Stmt{{Kind: impl.StWeigh, A: 1, W: someW}, second}, 0)
		wantChange(t, "a weighing by first", over, []impl.Stmt{{Kind: impl.StWeighBy, A: 1, B: 0, W: someW}, second}, 0)
	}
	for _, first := range []impl.Stmt{draw, by, set, setBy, setOwn, add} {
		wantChange(t, "set to itself and 1", over, []impl.Stmt{first, setOwn}, 0)
		wantChange(t, "added to", over, []impl.Stmt{first, add}, 0)
		wantChange(t, "weighed", over, []impl.Stmt{first, {Kind: impl.StWeigh, A: 1, W: someW}}, 0)
		wantChange(t, "none behind", over, []impl.Stmt{first}, 0)
	}
	wantChange(t, "a draw that cannot be 0", over, []impl.Stmt{{Kind: impl.StDraw, A: 1, W: [3]int{0, 0, 9}}, set}, 9, set)
	wantChange(t, "the greatest sum", over, []impl.Stmt{{Kind: impl.StDraw, A: 1, W: [3]int{9, 9, 9}}, draw}, 27, draw)
}

func TestScalesByHand(t *testing.T) {
	for _, c := range []struct {
		w    [3]int
		by   int
		less [3]int
	}{
		{[3]int{2, 4, 0}, 2, [3]int{1, 2, 0}},
		{[3]int{4, 8, 4}, 4, [3]int{1, 2, 1}},
		{[3]int{4, 8, 6}, 2, [3]int{2, 4, 3}},
		{[3]int{9, 9, 9}, 9, [3]int{1, 1, 1}},
		{[3]int{3, 6, 9}, 3, [3]int{1, 2, 3}},
		{[3]int{0, 0, 7}, 7, [3]int{0, 0, 1}},
		{[3]int{0, 8, 0}, 8, [3]int{0, 1, 0}},
		{[3]int{6, 0, 6}, 6, [3]int{1, 0, 1}},
		{[3]int{1, 2, 0}, 0, noneW},
		{[3]int{0, 1, 0}, 0, noneW},
		{[3]int{6, 9, 8}, 0, noneW},
		{[3]int{2, 3, 0}, 0, noneW},
		{[3]int{6, 3, 2}, 0, noneW},
	} {
		for _, s := range []impl.Stmt{draw1, drawBy, weigh3, weigh2} {
			less := s
			s.W, less.W = c.w, c.less
			var one, more []impl.Stmt
			if c.by > 0 {
				one, more = []impl.Stmt{less}, []impl.Stmt{less, add01}
			}
			wantChange(t, "alone", impl.ChScale, []impl.Stmt{s}, c.by, one...)
			wantChange(t, "ahead of another one", impl.ChScale, []impl.Stmt{s, add01}, c.by, more...)
		}
	}
	wantChange(t, "set", impl.ChScale, []impl.Stmt{set0, {Kind: impl.StDraw, A: 1, W: [3]int{2, 4, 0}}}, 0)
	wantChange(t, "added", impl.ChScale, []impl.Stmt{add01}, 0)
}

func TestMovesByHand(t *testing.T) {
	w := [3]int{7, 0, 5}
	by := impl.Stmt{Kind: impl.StDrawBy, A: 2, B: 3, W: w}
	weighBy := impl.Stmt{Kind: impl.StWeighBy, A: 2, B: 3, W: w}
	for value, less := range [][3]int{{7, 0, 5}, {0, 5, 7}, {5, 7, 0}} {
		set := impl.Stmt{Kind: impl.StSet, A: 3, B: -1, C: value}
		wantChange(t, "drawn by", impl.ChMove, []impl.Stmt{set, by}, 1, set, impl.Stmt{Kind: impl.StDraw, A: 2, W: less})
		wantChange(t, "weighed by", impl.ChMove, []impl.Stmt{set, weighBy}, 1, set, impl.Stmt{Kind: impl.StWeigh, A: 2, W: less})
		for _, second := range []impl.Stmt{by, weighBy} {
			setBy, other := set, set
			setBy.B, other.A = 0, 1
			own := impl.Stmt{Kind: impl.StSet, A: 2, B: -1, C: value}
			setOwn := impl.Stmt{Kind: impl.StSet, A: 3, B: 3, C: value}
			wantChange(t, "set by another one", impl.ChMove, []impl.Stmt{setBy, second}, 0)
			wantChange(t, "set by itself", impl.ChMove, []impl.Stmt{setOwn, second}, 0)
			wantChange(t, "another one is set", impl.ChMove, []impl.Stmt{other, second}, 0)
			wantChange(t, "A is set", impl.ChMove, []impl.Stmt{own, second}, 0)
			wantChange(t, "behind", impl.ChMove, []impl.Stmt{second, set}, 0)
			wantChange(t, "drawn", impl.ChMove, []impl.Stmt{{Kind: impl.StDraw, A: 3, W: [3]int{0, 1, 0}}, second}, 0)
		}
		wantChange(t, "added", impl.ChMove, []impl.Stmt{set, {Kind: impl.StAdd, A: 2, B: 3}}, 0)
		wantChange(t, "set to it", impl.ChMove, []impl.Stmt{set, {Kind: impl.StSet, A: 2, B: 3}}, 0)
		wantChange(t, "a draw", impl.ChMove, []impl.Stmt{set, draw1}, 0)
		wantChange(t, "none behind", impl.ChMove, []impl.Stmt{set}, 0)
	}
	// The B of a draw alone is 0, which is no variable of it.
	set := impl.Stmt{Kind: impl.StSet, A: 0, B: -1, C: 1}
	wantChange(t, "a draw alone", impl.ChMove, []impl.Stmt{set, draw1}, 0)
	wantChange(t, "a weighing alone", impl.ChMove, []impl.Stmt{set, weigh3}, 0)
}

// wantTidy compares Tidy with what is told.
func wantTidy(t *testing.T, name string, p []impl.Stmt, by int, want ...impl.Stmt) {
	t.Helper()
	got, gotBy, ok := impl.Tidy(p)
	if !ok || gotBy != by || !slices.Equal(got, want) {
		t.Errorf("%s: Tidy = %v, %d, %v", name, got, gotBy, ok)
	}
	if again, by, ok := impl.Tidy(want); !ok || by != 1 || !slices.Equal(again, want) {
		t.Errorf("%s: Tidy again = %v, %d, %v", name, again, by, ok)
	}
	checkChanges(t, p)
	checkAllKept(t, p, 50)
}

func TestTidyByHand(t *testing.T) {
	draw := func(w ...int) impl.Stmt { return impl.Stmt{Kind: impl.StDraw, A: 1, W: [3]int(w)} }
	weigh := func(w ...int) impl.Stmt { return impl.Stmt{Kind: impl.StWeigh, A: 1, W: [3]int(w)} }
	set1 := impl.Stmt{Kind: impl.StSet, A: 1, B: -1, C: 2}
	by := func(w ...int) impl.Stmt { return impl.Stmt{Kind: impl.StDrawBy, A: 2, B: 1, W: [3]int(w)} }
	draw2 := func(w ...int) impl.Stmt { return impl.Stmt{Kind: impl.StDraw, A: 2, W: [3]int(w)} }
	wantTidy(t, "nothing", nil, 1)
	wantTidy(t, "the example", []impl.Stmt{draw(2, 4, 0), weigh(1, 1, 1)}, 2, draw(1, 2, 0))
	wantTidy(t, "only swaps", []impl.Stmt{draw(1, 2, 0), draw2(1, 2, 0), set0}, 1, draw(1, 2, 0), draw2(1, 2, 0), set0)
	wantTidy(t, "swaps are not done", []impl.Stmt{draw(1, 2, 0), draw2(1, 2, 0), weigh(1, 2, 3)}, 1, draw(1, 2, 0), draw2(1, 2, 0), weigh(1, 2, 3))
	wantTidy(t, "the first fold first", []impl.Stmt{weigh(1, 1, 3), weigh(1, 1, 3), weigh(1, 1, 2)}, 1, weigh(1, 1, 9), weigh(1, 1, 2))
	wantTidy(t, "the first fold that can be done", []impl.Stmt{weigh(1, 1, 2), weigh(1, 1, 5), weigh(2, 1, 1)}, 1, weigh(1, 1, 2), weigh(2, 1, 5))
	wantTidy(t, "folded when scaled", []impl.Stmt{draw(2, 4, 6), weigh(3, 3, 3)}, 6, draw(1, 2, 3))
	wantTidy(t, "never folded", []impl.Stmt{draw(1, 0, 1), weigh(0, 1, 0)}, 1, draw(1, 0, 1), weigh(0, 1, 0))
	wantTidy(t, "all is over", []impl.Stmt{draw(1, 2, 1), draw(5, 1, 1), weigh(1, 1, 1), set1}, 28, set1)
	wantTidy(t, "folded, and then over", []impl.Stmt{draw(1, 2, 0), weigh(3, 4, 9), set1}, 11, set1)
	wantTidy(t, "not over, for it is read", []impl.Stmt{draw(1, 2, 0), by(1, 0, 0), set1}, 1, draw(1, 2, 0), by(1, 0, 0), set1)
	wantTidy(t, "moved, and then folded", []impl.Stmt{set1, by(2, 4, 6), {Kind: impl.StWeigh, A: 2, W: [3]int{1, 2, 4}}}, 2, set1, draw2(3, 2, 8))
	wantTidy(t, "moved, and scaled", []impl.Stmt{set1, by(9, 9, 9)}, 9, set1, draw2(1, 1, 1))
	wantTidy(t, "moved by what is left", []impl.Stmt{draw(1, 2, 0), set1, by(1, 2, 3)}, 3, set1, draw2(3, 1, 2))
	wantTidy(t, "back by a window", []impl.Stmt{draw(1, 1, 2), draw2(1, 2, 0), {Kind: impl.StSet, A: 2, B: -1}, {Kind: impl.StSet, A: 2, B: 1}, {Kind: impl.StSet, A: 1, B: -1, C: 1}},
		3, draw(1, 1, 2), impl.Stmt{Kind: impl.StSet, A: 2, B: 1}, impl.Stmt{Kind: impl.StSet, A: 1, B: -1, C: 1})
	wantTidy(t, "never", []impl.Stmt{draw(0, 2, 0), weigh(4, 0, 4), set1}, 8, draw(0, 1, 0), weigh(1, 0, 1), set1)
}

// The greatest number that there is, by ten draws of the greatest weights.
func TestGreatestTidy(t *testing.T) {
	nines := [3]int{9, 9, 9}
	factor := 9
	for n := 1; n <= 10; n++ {
		p := times(impl.Stmt{Kind: impl.StDraw, A: 3, W: nines}, n)
		wantTidy(t, "draws that are over", p, factor, impl.Stmt{Kind: impl.StDraw, A: 3, W: [3]int{1, 1, 1}})
		factor *= 27
	}
	factor = 1
	for n := 1; n <= 10; n++ {
		factor *= 9
		wantTidy(t, "weighings", times(impl.Stmt{Kind: impl.StWeigh, A: 3, W: nines}, n), factor, impl.Stmt{Kind: impl.StWeigh, A: 3, W: [3]int{1, 1, 1}})
	}
}

func TestChangesThatAreNone(t *testing.T) {
	p := []impl.Stmt{{Kind: impl.StDraw, A: 0, W: [3]int{2, 4, 0}}, {Kind: impl.StWeigh, A: 0, W: [3]int{1, 1, 1}}, draw1}
	for _, n := range []int{math.MinInt, math.MinInt + 1, -81, -1, 5, 6, 7, 100, math.MaxInt - 1, math.MaxInt} {
		for other := range 5 {
			checkChange(t, p, n, other)
			checkChange(t, p, other, n)
			checkChange(t, p, n, n)
			checkChange(t, nil, other, n)
			checkChange(t, nil, n, other)
		}
	}
	for change := range 5 {
		checkChange(t, nil, change, 0)
		for at := 3; at <= 10; at++ {
			checkChange(t, p, change, at)
		}
	}
	if got := impl.ChangesOf(nil); len(got) != 0 {
		t.Errorf("ChangesOf nothing = %v", got)
	}
}

// What is no plain program has no changes, be its statements such that could be changed or not.
func TestChangesOfNoPrograms(t *testing.T) {
	for _, p := range noPrograms {
		checkNoChanges(t, p)
		checkChanges(t, p)
	}
	can := []impl.Stmt{{Kind: impl.StDraw, A: 0, W: [3]int{2, 4, 0}}, {Kind: impl.StWeigh, A: 0, W: [3]int{1, 1, 1}}, draw1}
	for _, other := range []impl.Stmt{skip1, {Kind: impl.StSkip, A: 3, B: 12}, {Kind: impl.StDraw, A: 0}, {Kind: 8}, {Kind: impl.StAdd, A: 1, B: 1}} {
		checkNoChanges(t, []impl.Stmt{other})
		checkNoChanges(t, join(can, []impl.Stmt{other}))
		checkNoChanges(t, join([]impl.Stmt{other}, can))
	}
	for many := 1; many <= 3; many++ {
		for c := range 4 {
			checkNoChanges(t, join([]impl.Stmt{loop(many, c)}, can))
			checkNoChanges(t, join(can, []impl.Stmt{loop(many, c)}))
		}
	}
	for n := 9; n <= 14; n++ {
		p := times(draw1, n)
		if got := len(impl.ChangesOf(p)) > 0; got != (n <= 10) {
			t.Errorf("%d statements have changes: %v", n, got)
		}
		checkChanges(t, p)
	}
}

// What is returned is new memory, each list for itself, and what is given stays as it is, also behind its length.
func TestChangesShareNothing(t *testing.T) {
	four := [3]int{4, 4, 4}
	whole := join([]impl.Stmt{
		{Kind: impl.StSet, A: 1, B: -1, C: 1}, drawBy, weigh3, {Kind: impl.StDraw, A: 2, W: four}, {Kind: impl.StWeigh, A: 2, W: someW}, set0, set0,
	}, times(weigh3, 20))
	before := slices.Clone(whole)
	for many := range 8 {
		p := whole[:many]
		wantTidied, _ := tidyWanted(p)
		for range 2 {
			for _, c := range changesWanted(p) {
				want, _, _ := changeWanted(p, c[0], c[1])
				got, _ := impl.ChangeDo(p, c[0], c[1])
				if !slices.Equal(got, want) {
					t.Fatalf("ChangeDo %v, %v hangs on what was told: %v", p, c, got)
				}
				spoilStmts(got)
				impl.FactorBy(p, c[0], c[1])
			}
			tidied, _, _ := impl.Tidy(p)
			if !slices.Equal(tidied, wantTidied) {
				t.Fatalf("Tidy %v hangs on what was told: %v", p, tidied)
			}
			spoilStmts(tidied)
			checkRowsApart(t, impl.ChangesOf(p), changesWanted(p))
		}
	}
	if !slices.Equal(whole, before) {
		t.Error("what was given is changed")
	}
}

// checkRowsApart writes over each row, and sees whether those behind it stay.
func checkRowsApart(t *testing.T, rows [][]int, want [][]int) {
	t.Helper()
	for i := range rows {
		if !slices.Equal(rows[i], want[i]) {
			t.Fatalf("the rows %d and %d share memory", i-1, i)
		}
		spoil(rows[i])
	}
}

// spoilStmts writes over statements, and over what is behind them.
func spoilStmts(list []impl.Stmt) {
	full := list[:cap(list)]
	for i := range full {
		full[i] = impl.Stmt{Kind: -1}
	}
}
