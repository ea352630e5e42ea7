package tests

import (
	"math"
	"slices"
	"testing"

	"loop.example/wholechance/impl"
)

// valuesFor are the values that a variable goes through: 0 alone if it is not in a set.
func valuesFor(vars int, v int) int {
	if has(vars, v) {
		return 3
	}
	return 1
}

// filled is the factor of a set of variables with the numbers of their values,
// told by a round for each variable: that of the first one is the innermost.
func filled(vars int, number func(values [4]int) int) impl.Factor {
	var f impl.Factor
	for v := range 4 {
		if has(vars, v) {
			f.Vars = append(f.Vars, v)
		}
	}
	for d := range valuesFor(vars, 3) {
		for c := range valuesFor(vars, 2) {
			for b := range valuesFor(vars, 1) {
				for a := range valuesFor(vars, 0) {
					f.Nums = append(f.Nums, number([4]int{a, b, c, d}))
				}
			}
		}
	}
	return f
}

// setFor is the set of some variables.
func setFor(vars []int) int {
	set := 0
	for _, v := range vars {
		set += bit(v)
	}
	return set
}

// numberFor looks for the number of a factor for the values that its variables have.
func numberFor(f impl.Factor, values [4]int) int {
	vars := setFor(f.Vars)
	found, at := -1, 0
	filled(vars, func(own [4]int) int {
		same := true
		for v := range 4 {
			same = same && (own[v] == values[v] || !has(vars, v))
		}
		if same {
			found = f.Nums[at]
		}
		at++
		return 0
	})
	return found
}

// factorWanted reports whether numbers are a factor, by the document's sentence.
func factorWanted(f impl.Factor) bool {
	for i, v := range f.Vars {
		if v < 0 || v > 3 || i > 0 && v <= f.Vars[i-1] {
			return false
		}
	}
	for _, number := range f.Nums {
		if number < 0 || number > maxNumber {
			return false
		}
	}
	return len(f.Nums) == map[int]int{0: 1, 1: 3, 2: 9, 3: 27, 4: 81}[len(f.Vars)]
}

// rowWith is a row with more numbers behind it, in new memory.
func rowWith(row []int, more ...int) []int { return slices.Concat(row, more) }

// someFactor has numbers from 0 to most that hang on a number alone.
func someFactor(number int, vars int, most int) impl.Factor {
	n := uint32(number)*2654435761 + 555
	return filled(vars, func([4]int) int {
		n = n*1664525 + 1013904223
		return int(n>>2) % (most + 1)
	})
}

func sameFactor(f impl.Factor, g impl.Factor) bool {
	return slices.Equal(f.Vars, g.Vars) && slices.Equal(f.Nums, g.Nums)
}

// noneAt reports whether what is returned is none.
func noneAt(f impl.Factor, ok bool) bool { return !ok && len(f.Vars) == 0 && len(f.Nums) == 0 }

// checkGot compares what is returned with a factor, or none if that is too great.
func checkGot(t *testing.T, name string, got impl.Factor, ok bool, want impl.Factor) {
	t.Helper()
	if !factorWanted(want) {
		if !noneAt(got, ok) {
			t.Fatalf("%s = %v, %v", name, got, ok)
		}
		return
	}
	if !ok || !sameFactor(got, want) || !impl.FactorOk(got) {
		t.Fatalf("%s = %v, %v; want %v", name, got, ok, want)
	}
}

func checkTimes(t *testing.T, f impl.Factor, g impl.Factor) {
	t.Helper()
	want := filled(setFor(f.Vars)|setFor(g.Vars), func(values [4]int) int {
		return numberFor(f, values) * numberFor(g, values)
	})
	got, ok := impl.FactorTimes(f, g)
	checkGot(t, "FactorTimes", got, ok, want)
	got, ok = impl.FactorTimes(g, f)
	checkGot(t, "FactorTimes, the other way round", got, ok, want)
}

// checkFactor compares all that is told of one factor with the document.
func checkFactor(t *testing.T, f impl.Factor) {
	t.Helper()
	if ok := impl.FactorOk(f); ok != factorWanted(f) {
		t.Fatalf("FactorOk %v = %v", f, ok)
	}
	if !factorWanted(f) {
		checkNoFactor(t, f)
		return
	}
	for state := -2; state < 84; state++ {
		want := -1
		if state >= 0 && state < 81 {
			want = numberFor(f, valuesIn(state))
		}
		if got := impl.FactorAt(f, state); got != want {
			t.Fatalf("FactorAt %v, %d = %d; want %d", f, state, got, want)
		}
	}
	for v := -1; v <= 4; v++ {
		checkWithout(t, f, v)
	}
}

// checkWithout compares what is told of a factor and a variable with the document.
func checkWithout(t *testing.T, f impl.Factor, v int) {
	t.Helper()
	is := slices.Contains(f.Vars, v)
	sum, ok := impl.SumOut(f, v)
	if !is && !noneAt(sum, ok) {
		t.Fatalf("SumOut %v, %d = %v, %v", f, v, sum, ok)
	}
	with := func(values [4]int, value int) int {
		values[v] = value
		return numberFor(f, values)
	}
	if is {
		checkGot(t, "SumOut", sum, ok, filled(setFor(f.Vars)-bit(v), func(values [4]int) int {
			return with(values, 0) + with(values, 1) + with(values, 2)
		}))
	}
	for value := -1; value <= 3; value++ {
		got, ok := impl.SetIn(f, v, value)
		if is && value >= 0 && value < 3 {
			checkGot(t, "SetIn", got, ok, filled(setFor(f.Vars)-bit(v), func(values [4]int) int { return with(values, value) }))
		} else if !noneAt(got, ok) {
			t.Fatalf("SetIn %v, %d, %d = %v, %v", f, v, value, got, ok)
		}
	}
}

// checkNoFactor sees that of what is no factor nothing is told.
func checkNoFactor(t *testing.T, f impl.Factor) {
	t.Helper()
	for _, state := range []int{-1, 0, 1, 40, 80, 81} {
		if got := impl.FactorAt(f, state); got != -1 {
			t.Fatalf("FactorAt %v, %d = %d", f, state, got)
		}
	}
	for _, g := range []impl.Factor{f, {Nums: []int{0}}, someFactor(3, 5, 9)} {
		first, ok := impl.FactorTimes(f, g)
		second, alsoOk := impl.FactorTimes(g, f)
		if !noneAt(first, ok) || !noneAt(second, alsoOk) {
			t.Fatalf("FactorTimes %v, %v = %v, %v and %v, %v", f, g, first, ok, second, alsoOk)
		}
	}
	for v := -1; v <= 4; v++ {
		sum, ok := impl.SumOut(f, v)
		set, alsoOk := impl.SetIn(f, v, 0)
		if !noneAt(sum, ok) || !noneAt(set, alsoOk) {
			t.Fatalf("%v, %d: SumOut = %v, %v; SetIn = %v, %v", f, v, sum, ok, set, alsoOk)
		}
	}
	for _, list := range [][]impl.Factor{{f}, {f, {Nums: []int{0}}}, {{Nums: []int{0}}, f}} {
		if got, ok := impl.ListOfFactors(list); ok || len(got) != 0 {
			t.Fatalf("ListOfFactors %v = %v, %v", list, got, ok)
		}
	}
}

// All rows of up to four numbers about the variables, with as many numbers as
// some set of variables has, and near that.
func TestFactorsOfAllVars(t *testing.T) {
	rows := [][]int{nil}
	for at := 0; len(rows[at]) < 4; at++ {
		for v := -1; v <= 4; v++ {
			rows = append(rows, rowWith(rows[at], v))
		}
	}
	rows = append(rows, []int{0, 1, 2, 3, 4}, []int{0, 1, 2, 3, 3}, []int{-1, 0, 1, 2, 3}, []int{0, 1, 2, 3, 0})
	for i, vars := range rows {
		for _, many := range []int{0, 1, 2, 3, 4, 8, 9, 10, 26, 27, 28, 80, 81, 82, 243} {
			checkFactor(t, impl.Factor{Vars: vars, Nums: slices.Repeat([]int{i % 10}, many)})
		}
	}
}

// All sets of variables, and all pairs of them, with numbers of all sizes: both
// that are factors in the end, and that are not.
func TestFactorsOfAllSets(t *testing.T) {
	mosts := []int{1, 9, 1000, 31622, 31623, 111111111, 333333333, 333333334, maxNumber}
	for vars := range 16 {
		for i, most := range mosts {
			f := someFactor(i+vars, vars, most)
			checkFactor(t, f)
			f.Nums[i%len(f.Nums)] = most
			checkFactor(t, f)
			for other := range 16 {
				checkTimes(t, f, someFactor(i*other, other, mosts[(i+other)%len(mosts)]))
				checkTimes(t, f, someFactor(i*other, other, maxNumber/most))
			}
		}
	}
}

// Numbers that are too great, or less than 0, wherever they stand, are those of no factor.
func TestNumbersOfFactors(t *testing.T) {
	for vars := range 16 {
		f := someFactor(vars, vars, 9)
		for at := range f.Nums {
			old := f.Nums[at]
			for _, number := range []int{math.MinInt, -1, 0, maxNumber, maxNumber + 1, 1 << 32, math.MaxInt} {
				f.Nums[at] = number
				checkFactor(t, f)
			}
			f.Nums[at] = old
		}
		for at := range f.Vars {
			old := f.Vars[at]
			for _, v := range []int{math.MinInt, -4, -1, 4, 5, 32, 64, 1 << 32, math.MaxInt} {
				f.Vars[at] = v
				checkFactor(t, f)
			}
			f.Vars[at] = old
		}
	}
	checkNoFactor(t, impl.Factor{})
	checkNoFactor(t, impl.Factor{Vars: []int{}, Nums: []int{}})
}

func TestNoStates(t *testing.T) {
	f := someFactor(2, 15, 9)
	for _, state := range []int{math.MinInt, -81, -1, 81, 82, 1 << 32, math.MaxInt} {
		if got := impl.FactorAt(f, state); got != -1 {
			t.Errorf("FactorAt %d = %d", state, got)
		}
	}
	for _, n := range []int{math.MinInt, -1, 4, 32, 64, 1 << 32, math.MaxInt} {
		sum, ok := impl.SumOut(f, n)
		set, setOk := impl.SetIn(f, n, 0)
		value, valueOk := impl.SetIn(f, 0, n)
		if !noneAt(sum, ok) || !noneAt(set, setOk) || !noneAt(value, valueOk) {
			t.Errorf("%d: SumOut = %v, SetIn = %v and %v", n, sum, set, value)
		}
	}
}

// over is a factor told by its variables and numbers.
func over(vars []int, nums ...int) impl.Factor { return impl.Factor{Vars: vars, Nums: nums} }

func wantFactor(t *testing.T, name string, got impl.Factor, ok bool, want impl.Factor) {
	t.Helper()
	if !ok || !sameFactor(got, want) {
		t.Errorf("%s: %v, %v", name, got, ok)
	}
}

func wantNoFactor(t *testing.T, name string, got impl.Factor, ok bool) {
	t.Helper()
	if !noneAt(got, ok) {
		t.Errorf("%s: %v, %v", name, got, ok)
	}
}

func TestFactorsByHand(t *testing.T) {
	f := over([]int{1, 3}, 10, 11, 12, 13, 14, 15, 16, 17, 18)
	// The state 60 has the values 0, 2, 0, 2, the state 80 2 of all, the state 5 has 2 and 1.
	for state, want := range map[int]int{0: 10, 1: 10, 3: 11, 5: 11, 9: 10, 27: 13, 30: 14, 60: 18, 80: 18, 54: 16} {
		if got := impl.FactorAt(f, state); got != want {
			t.Errorf("FactorAt %d = %d", state, got)
		}
	}
	got, ok := impl.SumOut(f, 1)
	wantFactor(t, "summed over the first variable", got, ok, over([]int{3}, 33, 42, 51))
	got, ok = impl.SumOut(f, 3)
	wantFactor(t, "summed over the last variable", got, ok, over([]int{1}, 39, 42, 45))
	got, ok = impl.SetIn(f, 1, 2)
	wantFactor(t, "set in the first variable", got, ok, over([]int{3}, 12, 15, 18))
	got, ok = impl.SetIn(f, 3, 1)
	wantFactor(t, "set in the last variable", got, ok, over([]int{1}, 13, 14, 15))
	got, ok = impl.FactorTimes(f, over([]int{3}, 1, 0, 2))
	wantFactor(t, "times one of its variables", got, ok, over([]int{1, 3}, 10, 11, 12, 0, 0, 0, 32, 34, 36))
	got, ok = impl.FactorTimes(over([]int{2}, 1, 2, 3), over([]int{0}, 4, 5, 6))
	wantFactor(t, "of other variables", got, ok, over([]int{0, 2}, 4, 5, 6, 8, 10, 12, 12, 15, 18))
	got, ok = impl.FactorTimes(over([]int{2}, 1, 2, 3), over([]int{2}, 4, 5, 0))
	wantFactor(t, "of the same variable", got, ok, over([]int{2}, 4, 10, 0))
	got, ok = impl.FactorTimes(over([]int{0, 1}, 1, 2, 3, 4, 5, 6, 7, 8, 9), over([]int{1, 2}, 1, 0, 0, 0, 2, 0, 0, 0, 3))
	wantFactor(t, "with one variable in common", got, ok, over([]int{0, 1, 2},
		1, 2, 3, 0, 0, 0, 0, 0, 0,
		0, 0, 0, 8, 10, 12, 0, 0, 0,
		0, 0, 0, 0, 0, 0, 21, 24, 27))
}

func TestFactorsWithoutVariables(t *testing.T) {
	five := over(nil, 5)
	if !impl.FactorOk(five) || !impl.FactorOk(over([]int{}, 0)) || !impl.FactorOk(over(nil, maxNumber)) {
		t.Error("FactorOk without variables")
	}
	if impl.FactorOk(over(nil, 5, 5)) || impl.FactorOk(over(nil)) || impl.FactorOk(over(nil, -1)) || impl.FactorOk(over(nil, maxNumber+1)) {
		t.Error("FactorOk of other numbers")
	}
	for state := range 81 {
		if got := impl.FactorAt(five, state); got != 5 {
			t.Errorf("FactorAt %d = %d", state, got)
		}
	}
	for _, state := range []int{-1, 81} {
		if got := impl.FactorAt(five, state); got != -1 {
			t.Errorf("FactorAt %d = %d", state, got)
		}
	}
	for v := range 4 {
		sum, ok := impl.SumOut(five, v)
		wantNoFactor(t, "summed over what it has not", sum, ok)
		set, ok := impl.SetIn(five, v, 0)
		wantNoFactor(t, "set in what it has not", set, ok)
		sum, ok = impl.SumOut(over([]int{v}, 1, 2, 4), v)
		wantFactor(t, "the only variable summed out", sum, ok, over(nil, 7))
		set, ok = impl.SetIn(over([]int{v}, 1, 2, 4), v, 2)
		wantFactor(t, "the only variable set", set, ok, over(nil, 4))
		got, ok := impl.FactorTimes(five, over([]int{v}, 1, 2, 4))
		wantFactor(t, "times one variable", got, ok, over([]int{v}, 5, 10, 20))
	}
	got, ok := impl.FactorTimes(five, five)
	wantFactor(t, "times itself", got, ok, over(nil, 25))
	all, ok := impl.FactorTimes(someFactor(1, 15, maxNumber), over(nil, 1))
	wantFactor(t, "all variables times 1", all, ok, someFactor(1, 15, maxNumber))
	list, ok := impl.ListOfFactors([]impl.Factor{five})
	if !ok || !slices.Equal(list, slices.Repeat([]int{5}, 81)) {
		t.Errorf("ListOfFactors = %v, %v", list, ok)
	}
}

// What is greater than MaxNumber, be it one number alone, is no factor, and what is as great is.
func TestFactorsTooGreat(t *testing.T) {
	const m = maxNumber
	for _, c := range []struct {
		name string
		f, g impl.Factor
		want []int
	}{
		{"the greatest one times 1", over(nil, m), over(nil, 1), []int{m}},
		{"times 2", over(nil, m), over(nil, 2), nil},
		{"times 0", over(nil, m), over(nil, 0), []int{0}},
		{"times itself", over(nil, m), over(nil, m), nil},
		{"one number of three", over([]int{2}, 0, 1, m), over([]int{2}, m, m, 2), nil},
		{"none of three", over([]int{2}, 0, 1, m), over([]int{2}, m, m, 1), []int{0, m, m}},
		{"just as great", over(nil, 25000), over(nil, 40000), []int{m}},
		{"just greater", over(nil, 31623), over(nil, 31623), nil},
		{"just less", over(nil, 31622), over(nil, 31622), []int{999950884}},
		{"greater in one word of 32 bits", over(nil, 65536), over(nil, 65536), nil},
	} {
		got, ok := impl.FactorTimes(c.f, c.g)
		if len(c.want) == 0 {
			wantNoFactor(t, c.name, got, ok)
		} else {
			wantFactor(t, c.name, got, ok, over(c.f.Vars, c.want...))
		}
	}
	got, ok := impl.SumOut(over([]int{1}, m, 0, 0), 1)
	wantFactor(t, "the greatest sum", got, ok, over(nil, m))
	got, ok = impl.SumOut(over([]int{1}, m, 0, 1), 1)
	wantNoFactor(t, "one more", got, ok)
	got, ok = impl.SumOut(over([]int{1}, m, m, m), 1)
	wantNoFactor(t, "the greatest numbers", got, ok)
	got, ok = impl.SumOut(over([]int{0, 1}, 0, 0, m, 1, 1, 1, 0, 0, 0), 1)
	wantNoFactor(t, "one sum of three", got, ok)
	got, ok = impl.SumOut(over([]int{0, 1}, 0, 0, m, 1, 1, 1, 0, 0, 0), 0)
	wantFactor(t, "no sum of three", got, ok, over([]int{1}, m, 3, 0))
	got, ok = impl.SetIn(over([]int{0, 1}, m, m, m, m, m, m, m, m, m), 0, 2)
	wantFactor(t, "the greatest numbers, set", got, ok, over([]int{1}, m, m, m))
	for _, number := range []int{9, 10, m} {
		list, ok := impl.ListOfFactors([]impl.Factor{over([]int{3}, 0, 0, number)})
		if ok != (number == 9) || ok != (len(list) == 81) {
			t.Errorf("ListOfFactors of %d = %v, %v", number, list, ok)
		}
	}
}

func checkListOf(t *testing.T, list []impl.Factor) {
	t.Helper()
	valid := len(list) <= 8
	want := slices.Repeat([]int{1}, 81)
	for _, f := range list {
		valid = valid && factorWanted(f) && slices.Max(f.Nums) <= 9
		for state := range want {
			if valid {
				want[state] *= numberFor(f, valuesIn(state))
			}
		}
	}
	got, ok := impl.ListOfFactors(list)
	if ok != valid || valid && !slices.Equal(got, want) || !valid && len(got) != 0 {
		t.Fatalf("ListOfFactors %v = %v, %v; want %v, %v", list, got, ok, want, valid)
	}
}

// someFactors are factors with numbers from 0 to most, over all sets of variables.
func someFactors(number int, many int, most int) []impl.Factor {
	var list []impl.Factor
	n := uint32(number)*2654435761 + 7
	for i := range many {
		n = n*1664525 + 1013904223
		list = append(list, someFactor(number+i*i, int(n>>20)%16, most))
	}
	return list
}

func TestListsOfFactors(t *testing.T) {
	checkListOf(t, nil)
	checkListOf(t, []impl.Factor{})
	for i := range 300 {
		for many := range 11 {
			checkListOf(t, someFactors(i, many, 9))
		}
		checkListOf(t, someFactors(i, 1+i%8, 10))
		checkListOf(t, someFactors(i, 1+i%8, maxNumber))
		spoilt := someFactors(i, 1+i%8, 9)
		one := &spoilt[i%len(spoilt)]
		one.Nums[i%len(one.Nums)] = -1
		checkListOf(t, spoilt)
		one.Nums = one.Nums[1:]
		checkListOf(t, spoilt)
	}
	for many := range 12 {
		for _, one := range []impl.Factor{over(nil, 9), over(nil, 0), over(nil, 10), {}, someFactor(5, 15, 9), over([]int{1}, 9, 9, 9)} {
			checkListOf(t, slices.Repeat([]impl.Factor{one}, many))
		}
	}
	got, ok := impl.ListOfFactors(slices.Repeat([]impl.Factor{over([]int{2}, 0, 9, 1)}, 8))
	if !ok || got[9] != 43046721 || got[0] != 0 || got[18] != 1 || sumOf(got) != 27*43046722 {
		t.Errorf("the greatest list = %v, %v", got, ok)
	}
	got, ok = impl.ListOfFactors(nil)
	if !ok || !slices.Equal(got, slices.Repeat([]int{1}, 81)) {
		t.Errorf("the list of no factors = %v, %v", got, ok)
	}
}

// singleWanted follows the document's sentence, for each two statements.
func singleWanted(p []impl.Stmt) bool {
	if !plainWanted(p) || len(p) > 4 {
		return false
	}
	for i, s := range p {
		_, _, sets := stmtWanted(s)
		if s.Kind < 2 || s.Kind > 5 {
			return false
		}
		for _, ahead := range p[:i] {
			_, reads, also := stmtWanted(ahead)
			if sets != -1 && (sets == also || has(reads, sets)) {
				return false
			}
		}
	}
	return true
}

// factorsWanted are the factors of a single program, by the document's sentence.
func factorsWanted(p []impl.Stmt) []impl.Factor {
	var list []impl.Factor
	drawn := 0
	for _, s := range p {
		named := bit(s.A)
		by := s.Kind == 3 || s.Kind == 5
		if by {
			named += bit(s.B)
		}
		list = append(list, filled(named, func(values [4]int) int {
			if by {
				return s.W[(values[s.A]+values[s.B])%3]
			}
			return s.W[values[s.A]]
		}))
		if s.Kind < 4 {
			drawn += bit(s.A)
		}
	}
	for v := range 4 {
		if !has(drawn, v) {
			list = append(list, over([]int{v}, 1, 0, 0))
		}
	}
	return list
}

// checkSingle compares what is told of statements with the document, and the
// product of their factors with their runs.
func checkSingle(t *testing.T, p []impl.Stmt) {
	t.Helper()
	single := singleWanted(p)
	if ok := impl.SingleOk(p); ok != single {
		t.Fatalf("SingleOk %v = %v", p, ok)
	}
	list, ok := impl.FactorsOf(p)
	if !single {
		if ok || len(list) != 0 {
			t.Fatalf("FactorsOf %v = %v, %v", p, list, ok)
		}
		return
	}
	want := factorsWanted(p)
	if !ok || !slices.EqualFunc(list, want, sameFactor) {
		t.Fatalf("FactorsOf %v = %v, %v; want %v", p, list, ok, want)
	}
	weights := weightsWanted(p, 0)
	if got, ok := impl.ListOfFactors(list); !ok || !slices.Equal(got, weights) || !slices.Equal(got, impl.WeightsOf(p)) {
		t.Fatalf("ListOfFactors of %v = %v, %v; want %v", p, got, ok, weights)
	}
}

// singleStmts are statements that draw or weigh: one of each kind and of all
// variables that it may name.
func singleStmts() []impl.Stmt {
	rows := [][3]int{{1, 2, 4}, {0, 3, 5}, {9, 0, 1}, {0, 0, 7}, {6, 8, 0}, {2, 2, 2}, {9, 9, 9}}
	var list []impl.Stmt
	for kind := 2; kind <= 5; kind++ {
		for a := range 4 {
			for b := range 4 {
				row := rows[(len(list)+kind)%len(rows)]
				if by := kind%2 == 1; by && a != b || !by && b == 0 {
					list = append(list, impl.Stmt{Kind: kind, A: a, B: b, W: row})
				}
			}
		}
	}
	return list
}

// Promise 8, for all programs of up to three statements out of some that draw or
// weigh, for some of four, and for all pairs out of these and others.
func TestSinglesOfAll(t *testing.T) {
	some := singleStmts()
	all := [][]impl.Stmt{nil}
	for at := 0; len(all[at]) < 3; at++ {
		for _, s := range some {
			all = append(all, join(all[at], []impl.Stmt{s}))
		}
	}
	many := 0
	for i, p := range all {
		checkSingle(t, p)
		for j := range len(p) / 3 * 2 {
			four := join(p, []impl.Stmt{some[(i/7+j*i+j*11)%len(some)]})
			checkSingle(t, four)
			if singleWanted(four) {
				many++
			}
		}
	}
	if many < 5000 {
		t.Errorf("only %d single programs of four statements", many)
	}
	others := slices.Concat(someStmts(), some, []impl.Stmt{skip1, loop(1, 1), loop(1, 0), {Kind: 8}, {Kind: 2}})
	for _, r := range others {
		for _, s := range others {
			checkSingle(t, []impl.Stmt{r, s})
			checkSingle(t, []impl.Stmt{draw1, r, s})
		}
	}
}

// What chapters 4 and 7 tell of weights, factors tell by sums and by values that are set.
func TestFactorsAreAnswers(t *testing.T) {
	some := singleStmts()
	for i := range 3000 {
		p := []impl.Stmt{some[i%32], some[i/32%32], some[i/5%32], some[i/7%32]}[:1+i%4]
		list, ok := impl.FactorsOf(p)
		if !ok {
			continue
		}
		all := over(nil, 1)
		for _, f := range list {
			if all, ok = impl.FactorTimes(all, f); !ok {
				t.Fatalf("%v has no product", p)
			}
		}
		weights := impl.WeightsOf(p)
		if !slices.Equal(all.Nums, weights) || !slices.Equal(all.Vars, []int{0, 1, 2, 3}) {
			t.Fatalf("the product of %v = %v", p, all)
		}
		for v := range 4 {
			checkSummed(t, all, weights, v, i)
		}
	}
}

func checkSummed(t *testing.T, all impl.Factor, weights []int, v int, number int) {
	t.Helper()
	marginal, _ := impl.MarginalOf(weights, v)
	alone := all
	for turn := range 4 {
		if other := (turn + number) % 4; other != v {
			alone, _ = impl.SumOut(alone, other)
		}
	}
	if !sameFactor(alone, over([]int{v}, marginal...)) {
		t.Fatalf("%v of the variable %d alone = %v; want %v", weights, v, alone, marginal)
	}
	for value := range 3 {
		given, _ := impl.GivenOf(weights, v, value)
		set, ok := impl.SetIn(all, v, value)
		one, alsoOk := impl.SetIn(alone, v, value)
		if !ok || sumOf(set.Nums) != sumOf(given) || !alsoOk || !sameFactor(one, over(nil, marginal[value])) {
			t.Fatalf("%v, %d set to %d = %v, and alone %v", weights, v, value, set, one)
		}
	}
}

func TestSinglesByHand(t *testing.T) {
	draw := func(v int, w ...int) impl.Stmt { return impl.Stmt{Kind: impl.StDraw, A: v, W: [3]int(w)} }
	by := func(a int, b int, w ...int) impl.Stmt {
		return impl.Stmt{Kind: impl.StDrawBy, A: a, B: b, W: [3]int(w)}
	}
	weigh := func(v int) impl.Stmt { return impl.Stmt{Kind: impl.StWeigh, A: v, W: [3]int{4, 0, 6}} }
	both := func(a int, b int) impl.Stmt {
		return impl.Stmt{Kind: impl.StWeighBy, A: a, B: b, W: [3]int{7, 8, 9}}
	}
	undrawn := func(v int) impl.Factor { return over([]int{v}, 1, 0, 0) }
	want := func(name string, p []impl.Stmt, list ...impl.Factor) {
		t.Helper()
		got, ok := impl.FactorsOf(p)
		if !ok || !impl.SingleOk(p) || !slices.EqualFunc(got, list, sameFactor) {
			t.Errorf("%s: FactorsOf = %v, %v", name, got, ok)
		}
		checkSingle(t, p)
	}
	example := over([]int{0, 1}, 1, 2, 3, 2, 3, 1, 3, 1, 2)
	want("nothing", nil, undrawn(0), undrawn(1), undrawn(2), undrawn(3))
	want("the example", []impl.Stmt{by(0, 1, 1, 2, 3)}, example, undrawn(1), undrawn(2), undrawn(3))
	want("so, the other way round", []impl.Stmt{by(1, 0, 1, 2, 3)}, example, undrawn(0), undrawn(2), undrawn(3))
	want("drawn, and read", []impl.Stmt{draw(1, 5, 0, 2), by(0, 1, 1, 2, 3)},
		over([]int{1}, 5, 0, 2), example, undrawn(2), undrawn(3))
	want("weighed, and not drawn", []impl.Stmt{weigh(3), weigh(3), both(2, 0)},
		over([]int{3}, 4, 0, 6), over([]int{3}, 4, 0, 6), over([]int{0, 2}, 7, 8, 9, 8, 9, 7, 9, 7, 8),
		undrawn(0), undrawn(1), undrawn(2), undrawn(3))
	want("all drawn", []impl.Stmt{draw(3, 1, 1, 0), draw(2, 2, 1, 0), by(0, 3, 0, 0, 3), by(1, 0, 0, 1, 0)},
		over([]int{3}, 1, 1, 0), over([]int{2}, 2, 1, 0), over([]int{0, 3}, 0, 0, 3, 0, 3, 0, 3, 0, 0),
		over([]int{0, 1}, 0, 1, 0, 1, 0, 0, 0, 0, 1))
	want("as many factors as there may be", []impl.Stmt{weigh(0), weigh(0), weigh(0), weigh(0)},
		slices.Concat(slices.Repeat([]impl.Factor{over([]int{0}, 4, 0, 6)}, 4),
			[]impl.Factor{undrawn(0), undrawn(1), undrawn(2), undrawn(3)})...)
	not := func(name string, p ...impl.Stmt) {
		t.Helper()
		if list, ok := impl.FactorsOf(p); ok || len(list) != 0 || impl.SingleOk(p) {
			t.Errorf("%s: FactorsOf = %v, %v", name, list, ok)
		}
		checkSingle(t, p)
	}
	not("five statements", weigh(0), weigh(0), weigh(0), weigh(0), weigh(0))
	not("drawn twice", draw(1, 1, 1, 1), draw(1, 1, 1, 1))
	not("drawn twice, not side by side", draw(1, 1, 1, 1), draw(0, 1, 1, 1), weigh(3), by(1, 0, 1, 1, 1))
	not("weighed ahead of the draw", weigh(1), draw(1, 1, 1, 1))
	not("weighed by both ahead of the draw", both(0, 1), draw(1, 1, 1, 1))
	not("so, the other one", both(0, 1), draw(0, 1, 1, 1))
	not("read ahead of the draw", by(0, 1, 1, 1, 1), draw(1, 1, 1, 1))
	not("each drawn by the other one", by(0, 1, 1, 1, 1), by(1, 0, 1, 1, 1))
	not("a variable set", draw(1, 1, 1, 1), set0)
	not("a variable added", draw(1, 1, 1, 1), add01)
	not("a set alone", impl.Stmt{Kind: impl.StSet})
	not("a skip", draw(1, 1, 1, 1), skip1)
	not("a loop", loop(1, 1), draw(1, 1, 1, 1))
	not("a loop that does nothing", loop(1, 0), draw(1, 1, 1, 1))
	not("no statement", draw(1, 1, 1, 1), impl.Stmt{Kind: impl.StWeigh, A: 1})
	not("a variable that is none", impl.Stmt{Kind: impl.StDraw, A: 4, W: someW})
	not("drawn by itself", by(2, 2, 1, 1, 1))
}

// What is no program is not single, however long it is.
func TestSinglesOfNoPrograms(t *testing.T) {
	for _, p := range noPrograms {
		checkSingle(t, p)
	}
	for n := range 80 {
		checkSingle(t, times(weigh3, n))
		checkSingle(t, times(draw1, n))
	}
}

// The greatest weights that there are: of four statements that weigh or draw.
func TestGreatestFactors(t *testing.T) {
	nines := [3]int{9, 9, 9}
	for _, p := range [][]impl.Stmt{
		times(impl.Stmt{Kind: impl.StWeighBy, A: 3, B: 2, W: nines}, 4),
		{{Kind: 2, A: 3, W: nines}, {Kind: 3, A: 1, B: 3, W: nines}, {Kind: 3, A: 0, B: 1, W: nines}, {Kind: 2, A: 2, W: nines}},
	} {
		list, ok := impl.FactorsOf(p)
		weights, alsoOk := impl.ListOfFactors(list)
		if !ok || !alsoOk || slices.Max(weights) != 6561 || sumOf(weights) != impl.TotalOf(p) {
			t.Errorf("%v has the factors %v, and the weights %v", p, list, weights)
		}
		checkSingle(t, p)
	}
}

// spoilFactor writes over a factor, and over what is behind it.
func spoilFactor(f impl.Factor) {
	spoil(f.Vars)
	spoil(f.Nums)
}

// roomy is a factor with more numbers behind its length, and what they are.
func roomy(f impl.Factor) (impl.Factor, impl.Factor) {
	whole := impl.Factor{Vars: rowWith(f.Vars, 7, 7, 7, 7, 7), Nums: rowWith(f.Nums, 8, 8, 8, 8, 8, 8)}
	return impl.Factor{Vars: whole.Vars[:len(f.Vars)], Nums: whole.Nums[:len(f.Nums)]}, whole
}

// What is returned is new memory, and what is given stays as it is, also behind its length.
func TestFactorsShareNothing(t *testing.T) {
	for vars := range 16 {
		for other := range 16 {
			f, whole := roomy(someFactor(vars, vars, 9))
			g, also := roomy(someFactor(other, other, 1))
			before := impl.Factor{Vars: slices.Clone(whole.Vars), Nums: slices.Clone(whole.Nums)}
			alsoBefore := impl.Factor{Vars: slices.Clone(also.Vars), Nums: slices.Clone(also.Nums)}
			for range 2 {
				checkTimes(t, f, g)
				checkTimes(t, f, over(nil, 1))
				for _, one := range [][2]impl.Factor{{f, g}, {g, f}, {f, over(nil, 1)}, {over(nil, 1), f}, {f, f}} {
					got, _ := impl.FactorTimes(one[0], one[1])
					spoilFactor(got)
				}
				for v := range 4 {
					sum, _ := impl.SumOut(f, v)
					set, _ := impl.SetIn(f, v, 1)
					spoilFactor(sum)
					spoilFactor(set)
					checkWithout(t, f, v)
				}
				list := []impl.Factor{f, g, {}, {}}
				weights, _ := impl.ListOfFactors(list[:2])
				spoil(weights)
				checkListOf(t, list[:2])
				weights, _ = impl.ListOfFactors(list[:1])
				spoil(weights)
				if len(list[2].Nums)+len(list[3].Nums) != 0 || !sameFactor(list[0], f) || !sameFactor(list[1], g) {
					t.Fatal("the list that was given is changed")
				}
			}
			if !sameFactor(whole, before) || !sameFactor(also, alsoBefore) {
				t.Fatal("what was given is changed")
			}
		}
	}
}

// No two factors of a program share memory, nor do those of two calls.
func TestFactorsOfShareNothing(t *testing.T) {
	whole := join([]impl.Stmt{draw1, drawBy, weigh3, weigh2}, times(weigh3, 6))
	before := slices.Clone(whole)
	for many := range 5 {
		want := factorsWanted(whole[:many])
		for range 2 {
			list, _ := impl.FactorsOf(whole[:many])
			for i, f := range list {
				if !sameFactor(f, want[i]) {
					t.Fatalf("the factor %d of %d statements is changed: %v", i, many, f)
				}
				spoilFactor(f)
			}
			full := list[:cap(list)]
			for i := range full {
				full[i] = over([]int{-1}, -1)
			}
		}
	}
	if !slices.Equal(whole, before) {
		t.Error("what was given is changed")
	}
}
