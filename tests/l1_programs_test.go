package tests

import (
	"math"
	"slices"
	"testing"

	"loop.example/wholechance/impl"
)

var (
	someW  = [3]int{1, 2, 0}
	noneW  = [3]int{}
	set0   = impl.Stmt{Kind: impl.StSet, A: 0, B: -1, C: 1}
	add01  = impl.Stmt{Kind: impl.StAdd, A: 0, B: 1}
	draw1  = impl.Stmt{Kind: impl.StDraw, A: 1, W: someW}
	drawBy = impl.Stmt{Kind: impl.StDrawBy, A: 2, B: 1, W: someW}
	weigh3 = impl.Stmt{Kind: impl.StWeigh, A: 3, W: someW}
	weigh2 = impl.Stmt{Kind: impl.StWeighBy, A: 2, B: 0, W: someW}
	skip1  = impl.Stmt{Kind: impl.StSkip, A: 1, B: 1, C: 2}
)

func loop(many int, times int) impl.Stmt {
	return impl.Stmt{Kind: impl.StLoop, B: many, C: times}
}

func times(s impl.Stmt, many int) []impl.Stmt {
	return slices.Repeat([]impl.Stmt{s}, many)
}

func join(parts ...[]impl.Stmt) []impl.Stmt {
	return slices.Concat(parts...)
}

func bit(v int) int {
	return map[int]int{0: 1, 1: 2, 2: 4, 3: 8}[v]
}

// stmtWanted is the document's table, read line by line: whether s is a statement, what it reads, and what it sets.
func stmtWanted(s impl.Stmt) (bool, int, int) {
	isVar := func(v int) bool { return v >= 0 && v <= 3 }
	isValue := func(c int) bool { return c >= 0 && c <= 2 }
	weights := s.W != noneW
	for _, w := range s.W {
		weights = weights && w >= 0 && w <= 9
	}
	other := isVar(s.A) && isVar(s.B) && s.A != s.B
	switch s.Kind {
	case 0:
		if isVar(s.A) && (s.B == -1 || isVar(s.B)) && isValue(s.C) && s.W == noneW {
			return true, bit(s.B), s.A
		}
	case 1:
		if other && s.C == 0 && s.W == noneW {
			return true, bit(s.A) + bit(s.B), s.A
		}
	case 2:
		if isVar(s.A) && s.B == 0 && s.C == 0 && weights {
			return true, 0, s.A
		}
	case 3:
		if other && s.C == 0 && weights {
			return true, bit(s.B), s.A
		}
	case 4:
		if isVar(s.A) && s.B == 0 && s.C == 0 && weights {
			return true, bit(s.A), -1
		}
	case 5:
		if other && s.C == 0 && weights {
			return true, bit(s.A) + bit(s.B), -1
		}
	case 6:
		if isVar(s.A) && s.B >= 1 && s.B <= 12 && isValue(s.C) && s.W == noneW {
			return true, bit(s.A), -1
		}
	case 7:
		if s.A == 0 && s.B >= 1 && s.B <= 10 && s.C >= 0 && s.C <= 3 && s.W == noneW {
			return true, 0, -1
		}
	}
	return false, 0, -1
}

func checkStmt(t *testing.T, s impl.Stmt) {
	t.Helper()
	ok, reads, sets := stmtWanted(s)
	if impl.StmtOk(s) != ok || impl.StmtReads(s) != reads || impl.StmtSets(s) != sets {
		t.Fatalf("%+v: StmtOk %v, StmtReads %d, StmtSets %d; want %v, %d, %d",
			s, impl.StmtOk(s), impl.StmtReads(s), impl.StmtSets(s), ok, reads, sets)
	}
	if impl.ProgramOk([]impl.Stmt{s}) != (ok && s.Kind != impl.StLoop) {
		t.Fatalf("ProgramOk of %+v alone = %v", s, !ok)
	}
}

func TestStatements(t *testing.T) {
	numbers := []int{math.MinInt, -2, -1, 0, 1, 2, 3, 4, 9, 10, 11, 12, 13, math.MaxInt}
	rows := [][3]int{
		{}, {1, 2, 0}, {0, 0, 1}, {0, 9, 0}, {9, 9, 9}, {10, 1, 1}, {1, 10, 1}, {1, 1, 10},
		{-1, 1, 1}, {1, -1, 1}, {1, 1, -1}, {0, 0, -1}, {math.MaxInt, 1, 1}, {1, 1, math.MinInt},
	}
	for _, kind := range []int{math.MinInt, -1, 0, 1, 2, 3, 4, 5, 6, 7, 8, 9, math.MaxInt} {
		for _, a := range numbers {
			for _, b := range numbers {
				for _, c := range numbers {
					for _, w := range rows {
						checkStmt(t, impl.Stmt{Kind: kind, A: a, B: b, C: c, W: w})
					}
				}
			}
		}
	}
}

func TestStatementsByHand(t *testing.T) {
	for _, c := range []struct {
		s     impl.Stmt
		reads int
		sets  int
	}{
		{set0, 0, 0},
		{impl.Stmt{Kind: impl.StSet, A: 3, B: 2}, 4, 3},
		{impl.Stmt{Kind: impl.StSet, A: 1, B: 1, C: 2}, 2, 1},
		{add01, 3, 0},
		{draw1, 0, 1},
		{drawBy, 2, 2},
		{weigh3, 8, -1},
		{weigh2, 5, -1},
		{skip1, 2, -1},
		{loop(2, 3), 0, -1},
		{loop(10, 0), 0, -1},
	} {
		if !impl.StmtOk(c.s) || impl.StmtReads(c.s) != c.reads || impl.StmtSets(c.s) != c.sets {
			t.Errorf("%+v: %v, %d, %d", c.s, impl.StmtOk(c.s), impl.StmtReads(c.s), impl.StmtSets(c.s))
		}
	}
	for _, kind := range []int{impl.StDraw, impl.StWeigh} {
		s := impl.Stmt{Kind: kind, A: 1}
		if impl.StmtOk(s) || impl.StmtReads(s) != 0 || impl.StmtSets(s) != -1 || impl.CountDraws([]impl.Stmt{s}) != -1 {
			t.Errorf("%+v has weights that are all 0", s)
		}
	}
}

// toldOut says of each loop what the document does, from the front on, without its limits.
func toldOut(p []impl.Stmt) ([]impl.Stmt, bool) {
	if len(p) == 0 {
		return nil, true
	}
	head, rest := p[:1], p[1:]
	if p[0].Kind == impl.StLoop {
		if len(rest) < p[0].B {
			return nil, false
		}
		body := rest[:p[0].B]
		if slices.ContainsFunc(body, func(s impl.Stmt) bool { return s.Kind == impl.StLoop }) {
			return nil, false
		}
		head, rest = slices.Repeat(body, p[0].C), rest[p[0].B:]
	}
	tail, ok := toldOut(rest)
	return join(head, tail), ok
}

// programWanted is toldOut with the document's limits; what is no statement tells no numbers.
func programWanted(p []impl.Stmt) ([]impl.Stmt, bool) {
	for _, s := range p {
		if ok, _, _ := stmtWanted(s); !ok {
			return nil, false
		}
	}
	want, ok := toldOut(p)
	return want, ok && len(p) <= 10 && len(want) <= 12
}

func checkProgram(t *testing.T, p []impl.Stmt) {
	t.Helper()
	want, ok := programWanted(p)
	draws, plain := 0, ok
	for _, s := range want {
		if s.Kind == impl.StDraw || s.Kind == impl.StDrawBy {
			draws++
		}
	}
	for _, s := range p {
		plain = plain && s.Kind != impl.StSkip && s.Kind != impl.StLoop
	}
	if !ok {
		want, draws = nil, -1
	}
	got, gotOk := impl.Unrolled(p)
	if gotOk != ok || !slices.Equal(got, want) {
		t.Fatalf("Unrolled of %v = %v, %v; want %v, %v", p, got, gotOk, want, ok)
	}
	if impl.ProgramOk(p) != ok || impl.PlainOk(p) != plain || impl.CountDraws(p) != draws {
		t.Fatalf("%v: ProgramOk %v, PlainOk %v, CountDraws %d; want %v, %v, %d",
			p, impl.ProgramOk(p), impl.PlainOk(p), impl.CountDraws(p), ok, plain, draws)
	}
}

// Promise 1, for all programs of up to four statements out of some.
func TestLoopsAreToldOut(t *testing.T) {
	stmts := []impl.Stmt{draw1, add01, drawBy, skip1}
	for many := 1; many <= 4; many++ {
		for c := 0; c <= 3; c++ {
			stmts = append(stmts, loop(many, c))
		}
	}
	level := [][]impl.Stmt{nil}
	for range 4 {
		var next [][]impl.Stmt
		for _, p := range level {
			checkProgram(t, p)
			for _, s := range stmts {
				next = append(next, join(p, []impl.Stmt{s}))
			}
		}
		level = next
	}
	for _, p := range level {
		checkProgram(t, p)
	}
}

func TestLoopsByHand(t *testing.T) {
	body := []impl.Stmt{draw1, add01}
	for name, c := range map[string]struct {
		p    []impl.Stmt
		want []impl.Stmt
	}{
		"nothing":         {nil, nil},
		"the example":     {join(times(loop(2, 3), 1), body), join(body, body, body)},
		"once":            {join(times(loop(2, 1), 1), body), body},
		"no times":        {join(times(loop(2, 0), 1), body), nil},
		"no times, ahead": {join(times(loop(1, 0), 1), body), times(add01, 1)},
		"at the end":      {[]impl.Stmt{set0, weigh3, loop(1, 2), draw1}, []impl.Stmt{set0, weigh3, draw1, draw1}},
		"at the front":    {[]impl.Stmt{loop(1, 2), draw1, set0, weigh3}, []impl.Stmt{draw1, draw1, set0, weigh3}},
		"two loops":       {[]impl.Stmt{loop(1, 2), draw1, loop(1, 3), add01}, join(times(draw1, 2), times(add01, 3))},
		"a skip within":   {[]impl.Stmt{loop(2, 2), skip1, draw1}, []impl.Stmt{skip1, draw1, skip1, draw1}},
		"a skip beyond":   {[]impl.Stmt{{Kind: impl.StSkip, B: 12}}, []impl.Stmt{{Kind: impl.StSkip, B: 12}}},
		"nine, no times":  {join(times(loop(9, 0), 1), times(draw1, 9)), nil},
		"no times, last":  {join(times(set0, 8), times(loop(1, 0), 1), times(draw1, 1)), times(set0, 8)},
	} {
		got, ok := impl.Unrolled(c.p)
		if !ok || !slices.Equal(got, c.want) {
			t.Errorf("%s: %v, %v", name, got, ok)
		}
		checkProgram(t, c.p)
	}
}

func TestNoPrograms(t *testing.T) {
	noDraw := impl.Stmt{Kind: impl.StDraw, A: 1}
	for name, p := range map[string][]impl.Stmt{
		"a loop as the last one":       {draw1, loop(1, 2)},
		"so, done no times":            {draw1, loop(1, 0)},
		"a loop of too many":           {loop(2, 1), draw1},
		"so, done no times ":           {loop(2, 0), draw1},
		"a loop in a loop":             {loop(2, 1), loop(1, 1), draw1},
		"a loop last in a loop":        {loop(2, 1), draw1, loop(1, 1), draw1},
		"so, done no times  ":          {loop(2, 0), draw1, loop(1, 1), draw1},
		"weights that are all 0":       {draw1, noDraw},
		"such ones, done no times":     {loop(1, 0), noDraw},
		"such ones behind another one": {loop(2, 0), draw1, noDraw},
		"no kind":                      {{Kind: 8}},
		"a loop without statements":    {loop(0, 1), draw1},
		"a loop four times":            {loop(1, 4), draw1},
		"a loop less than no times":    {loop(1, -1), draw1},
		"a loop of very many":          {draw1, loop(math.MaxInt, 1), draw1},
		"a loop of less than none":     {draw1, loop(-1, 1), draw1},
	} {
		got, ok := impl.Unrolled(p)
		if ok || len(got) != 0 || impl.ProgramOk(p) || impl.PlainOk(p) || impl.CountDraws(p) != -1 {
			t.Errorf("%s: %v, %v, %v, %v, %d", name, got, ok, impl.ProgramOk(p), impl.PlainOk(p), impl.CountDraws(p))
		}
		checkProgram(t, p)
	}
}

func TestLimitsOfPrograms(t *testing.T) {
	for n := 0; n <= 14; n++ {
		p := times(draw1, n)
		checkProgram(t, p)
		if impl.ProgramOk(p) != (n <= 10) || impl.PlainOk(p) != (n <= 10) {
			t.Errorf("%d statements", n)
		}
	}
	for behind := 0; behind <= 4; behind++ {
		p := join(times(loop(3, 3), 1), times(draw1, 3), times(set0, behind))
		checkProgram(t, p)
		if impl.ProgramOk(p) != (behind <= 3) {
			t.Errorf("%d steps", 9+behind)
		}
		checkProgram(t, join(times(set0, behind), times(loop(3, 3), 1), times(draw1, 3)))
	}
	for many := 1; many <= 9; many++ {
		for c := 0; c <= 3; c++ {
			p := join(times(loop(many, c), 1), times(draw1, many))
			checkProgram(t, p)
			if impl.ProgramOk(p) != (many*c <= 12) {
				t.Errorf("a loop of %d, %d times", many, c)
			}
		}
	}
	checkProgram(t, join(times(loop(10, 0), 1), times(draw1, 10)))
}

// What is returned is new memory, and what is given stays as it is, also behind its length.
func TestUnrolledSharesNothing(t *testing.T) {
	for _, p := range [][]impl.Stmt{{draw1, add01}, {loop(1, 1), add01}, {set0, loop(2, 3), draw1, skip1}, {draw1, loop(1, 0), draw1}} {
		whole := join(p, times(weigh3, 20))
		before := slices.Clone(whole)
		first, _ := impl.Unrolled(whole[:len(p)])
		second, _ := impl.Unrolled(whole[:len(p)])
		want := slices.Clone(second)
		full := first[:cap(first)]
		for i := range full {
			full[i] = impl.Stmt{Kind: -1}
		}
		if !slices.Equal(whole, before) || !slices.Equal(second, want) {
			t.Errorf("Unrolled of %v shares memory", p)
		}
	}
}

func TestStates(t *testing.T) {
	for state := -2; state <= 83; state++ {
		rest := state
		for v := -1; v <= 4; v++ {
			ok := state >= 0 && state < 81 && v >= 0 && v < 4
			want := -1
			if ok {
				want = rest % 3
				rest /= 3
			}
			if got := impl.ValueAt(state, v); got != want {
				t.Fatalf("ValueAt(%d, %d) = %d, want %d", state, v, got, want)
			}
			for value := -1; value <= 3; value++ {
				checkWith(t, state, v, value, ok && value >= 0 && value < 3)
			}
		}
	}
}

func checkWith(t *testing.T, state int, v int, value int, ok bool) {
	t.Helper()
	got := impl.WithValue(state, v, value)
	if !ok {
		if got != -1 {
			t.Fatalf("WithValue(%d, %d, %d) = %d", state, v, value, got)
		}
		return
	}
	for u := range impl.Vars {
		want := impl.ValueAt(state, u)
		if u == v {
			want = value
		}
		if impl.ValueAt(got, u) != want {
			t.Fatalf("WithValue(%d, %d, %d) = %d", state, v, value, got)
		}
	}
}

func TestStatesByHand(t *testing.T) {
	if impl.ValueAt(5, 0) != 2 || impl.ValueAt(5, 1) != 1 || impl.ValueAt(80, 3) != 2 || impl.ValueAt(27, 3) != 1 {
		t.Error("ValueAt")
	}
	if impl.WithValue(5, 1, 2) != 8 || impl.WithValue(0, 3, 2) != 54 || impl.WithValue(80, 2, 0) != 62 || impl.WithValue(7, 0, 1) != 7 {
		t.Error("WithValue")
	}
	for _, n := range []int{math.MinInt, math.MaxInt} {
		if impl.ValueAt(n, 0) != -1 || impl.ValueAt(0, n) != -1 || impl.WithValue(n, 0, 0) != -1 || impl.WithValue(0, n, 0) != -1 || impl.WithValue(0, 0, n) != -1 {
			t.Errorf("states of %d", n)
		}
	}
}
