package tests

import (
	"math"
	"math/big"
	"slices"
	"testing"

	"loop.example/wholechance/impl"
)

const maxNumber = 1000000000

// valuesIn is the value of each variable in a state.
func valuesIn(state int) [4]int {
	return [4]int{state % 3, state / 3 % 3, state / 9 % 3, state / 27}
}

// commonWanted tries all numbers, from the least one of the list down, that is above 0.
func commonWanted(list []int) int {
	least := 0
	for _, n := range list {
		if n > 0 && (least == 0 || n < least) {
			least = n
		}
	}
	for by := least; by > 1; by-- {
		if !slices.ContainsFunc(list, func(n int) bool { return n%by != 0 }) {
			return by
		}
	}
	return 1
}

func reducedWanted(list []int) []int {
	by := commonWanted(list)
	var want []int
	for _, n := range list {
		want = append(want, n/by)
	}
	return want
}

// listOf is a list of which some numbers are told, by their states.
func listOf(some ...stateWeight) []int {
	list := make([]int, 81)
	for _, s := range some {
		list[s.state] = s.weight
	}
	return list
}

// someLists are lists of all sorts: noughts, the greatest numbers, few numbers, weights of programs.
func someLists() [][]int {
	lists := [][]int{
		make([]int, 81),
		slices.Repeat([]int{1}, 81),
		slices.Repeat([]int{maxNumber}, 81),
		listOf(stateWeight{0, 7}),
		listOf(stateWeight{80, maxNumber}),
		listOf(stateWeight{0, maxNumber}, stateWeight{41, maxNumber - 1}, stateWeight{80, maxNumber}),
	}
	for i := range 60 {
		lists = append(lists, someNumbers(i), productList(i))
		weights := impl.WeightsOf(wideStmts(i, 3+i%5))
		if len(weights) == 81 && slices.Max(weights) <= maxNumber {
			lists = append(lists, weights)
		}
	}
	return lists
}

// productList is a product of numbers of each variable for itself; each third
// one has another number somewhere, each second one is great.
func productList(number int) []int {
	list := make([]int, 81)
	n := uint32(number)*2654435761 + 31
	var own [4][3]int
	for v := range own {
		for value := range own[v] {
			n = n*1664525 + 1013904223
			own[v][value] = int(n >> 20 % 6)
			if number%2 == 1 {
				own[v][value] = 150 + int(n>>20%28)
			}
		}
	}
	for state := range list {
		list[state] = 1
		for v, value := range valuesIn(state) {
			list[state] *= own[v][value]
		}
	}
	if number%3 == 0 {
		list[int(n>>8%81)]++
	}
	return list
}

var wrongNumbers = []int{math.MinInt, -maxNumber, -1, maxNumber + 1, 2 * maxNumber, math.MaxInt}

// wrongLists are lists with a number too few or too many, or one that is too great or too small.
func wrongLists() [][]int {
	var lists [][]int
	for _, many := range []int{0, 1, 3, 80, 82, 162, 100000} {
		lists = append(lists, make([]int, many), slices.Repeat([]int{1}, many))
	}
	for _, at := range []int{0, 1, 40, 79, 80} {
		for _, number := range wrongNumbers {
			list := someNumbers(at)
			list[at] = number
			lists = append(lists, list)
		}
	}
	return lists
}

var wrongIndexes = []int{math.MinInt, -1, 4, 5, 81, math.MaxInt}

func TestReducedOfAll(t *testing.T) {
	for a := range 25 {
		for b := range 25 {
			for c := range 25 {
				list := []int{a, b, c}
				if got := impl.Reduced(list); !slices.Equal(got, reducedWanted(list)) {
					t.Fatalf("Reduced %v = %v", list, got)
				}
			}
		}
	}
	for i := range 200 {
		list := someNumbers(i)
		for at := range list {
			list[at] *= 1 + i%13
		}
		for _, many := range []int{1, 2, 5, 40, 81} {
			if got := impl.Reduced(list[:many]); !slices.Equal(got, reducedWanted(list[:many])) {
				t.Fatalf("Reduced %v = %v", list[:many], got)
			}
		}
	}
}

func TestReducedByHand(t *testing.T) {
	for _, c := range []struct{ list, want []int }{
		{nil, nil},
		{[]int{0}, []int{0}},
		{[]int{0, 0, 0}, []int{0, 0, 0}},
		{make([]int, 81), make([]int, 81)},
		{make([]int, 1000), make([]int, 1000)},
		{[]int{7}, []int{1}},
		{[]int{0, 0, 6, 0}, []int{0, 0, 1, 0}},
		{[]int{4, 6, 10}, []int{2, 3, 5}},
		{[]int{6, 10, 15}, []int{6, 10, 15}},
		{[]int{maxNumber}, []int{1}},
		{[]int{maxNumber, 0, maxNumber}, []int{1, 0, 1}},
		{[]int{maxNumber, maxNumber - 1}, []int{maxNumber, maxNumber - 1}},
		{[]int{maxNumber, 700000000, 30}, []int{100000000, 70000000, 3}},
		{[]int{999999937, maxNumber}, []int{999999937, maxNumber}},
		{[]int{701408733, 433494437}, []int{701408733, 433494437}},
		{slices.Repeat([]int{maxNumber}, 200), slices.Repeat([]int{1}, 200)},
	} {
		if got := impl.Reduced(c.list); !slices.Equal(got, c.want) {
			t.Errorf("Reduced %v = %v", c.list, got)
		}
	}
	for _, number := range wrongNumbers {
		for at := range 5 {
			for _, list := range [][]int{make([]int, 5), {2, 4, 6, 8, 10}} {
				list[at] = number
				if got := impl.Reduced(list); len(got) != 0 {
					t.Errorf("Reduced %v = %v", list, got)
				}
			}
		}
	}
}

func wantFraction(t *testing.T, name string, a int, b int, ok bool, above int, below int, wantOk bool) {
	t.Helper()
	if a != above || b != below || ok != wantOk {
		t.Fatalf("%s = %d, %d, %v; want %d, %d, %v", name, a, b, ok, above, below, wantOk)
	}
}

func TestFractions(t *testing.T) {
	for above := range 60 {
		for below := 1; below < 60; below++ {
			want := reducedWanted([]int{above, below})
			a, b, ok := impl.FractionOf(above, below)
			wantFraction(t, "FractionOf", a, b, ok, want[0], want[1], true)
		}
	}
	for _, c := range [][4]int{
		{0, 1, 0, 1},
		{0, maxNumber, 0, 1},
		{1, maxNumber, 1, maxNumber},
		{maxNumber, 1, maxNumber, 1},
		{maxNumber, maxNumber, 1, 1},
		{maxNumber - 1, maxNumber, maxNumber - 1, maxNumber},
		{maxNumber, 375000000, 8, 3},
		{999999936, 999999937, 999999936, 999999937},
		{701408733, 433494437, 701408733, 433494437},
	} {
		a, b, ok := impl.FractionOf(c[0], c[1])
		wantFraction(t, "FractionOf", a, b, ok, c[2], c[3], true)
	}
	for _, number := range wrongNumbers {
		for _, other := range []int{0, 1, 6, maxNumber, number} {
			a, b, ok := impl.FractionOf(number, other)
			wantFraction(t, "FractionOf", a, b, ok, 0, 0, false)
			a, b, ok = impl.FractionOf(other, number)
			wantFraction(t, "FractionOf", a, b, ok, 0, 0, false)
		}
	}
	for _, above := range []int{0, 1, 6, maxNumber} {
		a, b, ok := impl.FractionOf(above, 0)
		wantFraction(t, "FractionOf by 0", a, b, ok, 0, 0, false)
	}
}

// checkList compares what chapter 4 tells of a list with the document, for all variables and values.
func checkList(t *testing.T, list []int) {
	t.Helper()
	for v := range 4 {
		marginal := make([]int, 3)
		given := [3][]int{make([]int, 81), make([]int, 81), make([]int, 81)}
		above, below := new(big.Int), new(big.Int)
		for state, number := range list {
			value := valuesIn(state)[v]
			marginal[value] += number
			given[value][state] = number
			above.Add(above, big.NewInt(int64(number*value)))
			below.Add(below, big.NewInt(int64(number)))
		}
		if got, ok := impl.MarginalOf(list, v); !ok || !slices.Equal(got, marginal) {
			t.Fatalf("MarginalOf %v, %d = %v, %v; want %v", list, v, got, ok, marginal)
		}
		for value := range 3 {
			if got, ok := impl.GivenOf(list, v, value); !ok || !slices.Equal(got, given[value]) {
				t.Fatalf("GivenOf %v, %d, %d = %v, %v", list, v, value, got, ok)
			}
		}
		a, b, ok := impl.MeanOf(list, v)
		if below.Sign() == 0 {
			wantFraction(t, "MeanOf noughts", a, b, ok, 0, 0, false)
			continue
		}
		want := new(big.Rat).SetFrac(above, below)
		wantFraction(t, "MeanOf", a, b, ok, int(want.Num().Int64()), int(want.Denom().Int64()), true)
	}
	for a := range 4 {
		for b := range 4 {
			if got := impl.Apart(list, a, b); got != (a != b && apartWanted(list, a, b)) {
				t.Fatalf("Apart %v, %d, %d = %v", list, a, b, got)
			}
		}
	}
}

// apartWanted is the document's sentence, in numbers that are as great as they need to be.
func apartWanted(list []int, a int, b int) bool {
	for x := range 3 {
		for y := range 3 {
			var both, whole, one, other int
			for state, number := range list {
				values := valuesIn(state)
				whole += number
				if values[a] == x {
					one += number
				}
				if values[b] == y {
					other += number
				}
				if values[a] == x && values[b] == y {
					both += number
				}
			}
			if bigProduct(both, whole).Cmp(bigProduct(one, other)) != 0 {
				return false
			}
		}
	}
	return true
}

func bigProduct(a int, b int) *big.Int {
	return new(big.Int).Mul(big.NewInt(int64(a)), big.NewInt(int64(b)))
}

func TestListsOfAll(t *testing.T) {
	apart, not := 0, 0
	for _, list := range someLists() {
		checkList(t, list)
		for v := 1; v < 4; v++ {
			if impl.Apart(list, 0, v) {
				apart++
			} else {
				not++
			}
		}
	}
	if apart < 50 || not < 50 {
		t.Errorf("only %d are apart, %d are not", apart, not)
	}
}

// Promise 4: what is given, over all values, is the whole.
func TestGivenIsTheWhole(t *testing.T) {
	for _, list := range someLists() {
		for v := range 4 {
			whole := make([]int, 81)
			marginal, ok := impl.MarginalOf(list, v)
			if !ok || len(marginal) != 3 || sumOf(marginal) != sumOf(list) {
				t.Fatalf("MarginalOf %v, %d = %v, %v", list, v, marginal, ok)
			}
			for value := range 3 {
				given, ok := impl.GivenOf(list, v, value)
				if !ok || len(given) != 81 || sumOf(given) != marginal[value] {
					t.Fatalf("GivenOf %v, %d, %d = %v, %v", list, v, value, given, ok)
				}
				addTimes(whole, given, 1)
				again, ok := impl.GivenOf(given, v, value)
				other, alsoOk := impl.GivenOf(given, v, (value+1)%3)
				if !ok || !alsoOk || !slices.Equal(again, given) || sumOf(other) != 0 {
					t.Fatalf("GivenOf twice %v, %d, %d = %v, %v", list, v, value, again, other)
				}
			}
			if !slices.Equal(whole, list) {
				t.Fatalf("what is given of %d is together %v; want %v", v, whole, list)
			}
		}
	}
}

func TestListsByHand(t *testing.T) {
	example := listOf(stateWeight{0, 2}, stateWeight{1, 4})
	a, b, ok := impl.MeanOf(example, 0)
	wantFraction(t, "the example", a, b, ok, 2, 3, true)
	a, b, ok = impl.MeanOf(example, 3)
	wantFraction(t, "a variable that is 0", a, b, ok, 0, 1, true)
	list := listOf(stateWeight{5, 6}, stateWeight{27, 3}, stateWeight{80, 6})
	if got, ok := impl.MarginalOf(list, 0); !ok || !slices.Equal(got, []int{3, 0, 12}) {
		t.Errorf("MarginalOf 0 = %v", got)
	}
	if got, ok := impl.MarginalOf(list, 3); !ok || !slices.Equal(got, []int{6, 3, 6}) {
		t.Errorf("MarginalOf 3 = %v", got)
	}
	if got, ok := impl.GivenOf(list, 1, 1); !ok || !slices.Equal(got, listOf(stateWeight{5, 6})) {
		t.Errorf("GivenOf 1, 1 = %v", got)
	}
	a, b, ok = impl.MeanOf(list, 0)
	wantFraction(t, "MeanOf 0", a, b, ok, 8, 5, true)
	a, b, ok = impl.MeanOf(list, 3)
	wantFraction(t, "MeanOf 3", a, b, ok, 1, 1, true)
	a, b, ok = impl.MeanOf(listOf(stateWeight{80, maxNumber}), 2)
	wantFraction(t, "always 2", a, b, ok, 2, 1, true)
}

func TestListsOfNoughts(t *testing.T) {
	list := make([]int, 81)
	for v := range 4 {
		if got, ok := impl.MarginalOf(list, v); !ok || !slices.Equal(got, []int{0, 0, 0}) {
			t.Errorf("MarginalOf %d = %v, %v", v, got, ok)
		}
		for value := range 3 {
			if got, ok := impl.GivenOf(list, v, value); !ok || !slices.Equal(got, list) {
				t.Errorf("GivenOf %d, %d = %v, %v", v, value, got, ok)
			}
		}
		a, b, ok := impl.MeanOf(list, v)
		wantFraction(t, "MeanOf", a, b, ok, 0, 0, false)
		for u := range 4 {
			if got := impl.Apart(list, u, v); got != (u != v) {
				t.Errorf("Apart %d, %d = %v", u, v, got)
			}
		}
	}
	if got := impl.Reduced(list); !slices.Equal(got, list) {
		t.Errorf("Reduced = %v", got)
	}
}

// Sums of lists are greater than the numbers of lists may be, and their products greater than a word.
func TestGreatestLists(t *testing.T) {
	all := slices.Repeat([]int{maxNumber}, 81)
	if got, ok := impl.MarginalOf(all, 2); !ok || !slices.Equal(got, []int{27 * maxNumber, 27 * maxNumber, 27 * maxNumber}) {
		t.Errorf("MarginalOf = %v", got)
	}
	if !impl.Apart(all, 0, 1) {
		t.Error("all the same are not apart")
	}
	a, b, ok := impl.MeanOf(all, 2)
	wantFraction(t, "all the same", a, b, ok, 1, 1, true)
	a, b, ok = impl.MeanOf(listOf(stateWeight{0, maxNumber}, stateWeight{3, 999999937}), 1)
	wantFraction(t, "a sum above all numbers", a, b, ok, 999999937, 1999999937, true)
	checkList(t, all)
}

// pairList spreads a number over the nine states that have two values of 0 and of 1.
func pairList(pairs [3][3]int) []int {
	list := make([]int, 81)
	for x := range 3 {
		for y := range 3 {
			for i := range 9 {
				list[x+3*y+9*i] = (pairs[x][y] + i) / 9
			}
		}
	}
	return list
}

func TestApartByHand(t *testing.T) {
	word := 1 << 32
	n := 8999999999
	for name, c := range map[string]struct {
		pairs [3][3]int
		apart bool
	}{
		"one value of both":          {[3][3]int{{}, {0, 5}}, true},
		"one value of the first":     {[3][3]int{{}, {4, 5, 7}}, true},
		"one value of the second":    {[3][3]int{{0, 0, 4}, {0, 0, 5}, {0, 0, 7}}, true},
		"products":                   {[3][3]int{{2, 4, 6}, {3, 6, 9}, {5, 10, 15}}, true},
		"products but for one":       {[3][3]int{{2, 4, 6}, {3, 6, 9}, {5, 10, 16}}, false},
		"both the same":              {[3][3]int{{1}, {0, 1}, {0, 0, 1}}, false},
		"only the last value hangs":  {[3][3]int{{1, 1, 2}, {1, 1, 2}, {1, 1, 3}}, false},
		"apart only in a value":      {[3][3]int{{2, 2, 2}, {2, 1, 3}, {2, 3, 1}}, false},
		"great products":             {[3][3]int{{8888888888, 4444444444}, {4444444444, 2222222222}}, true},
		"the same but for one word":  {[3][3]int{{word}, {0, word}}, false},
		"so, with the other values":  {[3][3]int{{}, {0, 0, word}, {0, word}}, false},
		"so, two words":              {[3][3]int{{2 * word}, {0, 2 * word}}, false},
		"the same but for 1":         {[3][3]int{{n, n - 1}, {n + 1, n}}, false},
		"so, with the other values ": {[3][3]int{{0, n, n + 1}, {}, {0, n - 1, n}}, false},
	} {
		list := pairList(c.pairs)
		if impl.Apart(list, 0, 1) != c.apart || impl.Apart(list, 1, 0) != c.apart {
			t.Errorf("%s: Apart = %v, %v", name, impl.Apart(list, 0, 1), impl.Apart(list, 1, 0))
		}
		checkList(t, list)
	}
}

// What is drawn for itself is apart, what is drawn by it is not, but for draws that are all the same.
func TestApartOfPrograms(t *testing.T) {
	same := [3]int{1, 1, 1}
	draw := func(v int, w [3]int) impl.Stmt { return impl.Stmt{Kind: impl.StDraw, A: v, W: w} }
	by := func(v int, u int, w [3]int) impl.Stmt { return impl.Stmt{Kind: impl.StDrawBy, A: v, B: u, W: w} }
	sum := []impl.Stmt{draw(0, same), draw(1, same), {Kind: impl.StSet, A: 2, B: 0}, {Kind: impl.StAdd, A: 2, B: 1}}
	seen := join(sum, []impl.Stmt{{Kind: impl.StWeigh, A: 2, W: [3]int{0, 1, 0}}})
	for name, c := range map[string]struct {
		p     []impl.Stmt
		a, b  int
		apart bool
	}{
		"nothing":                         {nil, 0, 3, true},
		"two draws":                       {[]impl.Stmt{draw(1, someW), draw(3, same)}, 1, 3, true},
		"one by the other":                {[]impl.Stmt{draw(1, someW), by(3, 1, someW)}, 3, 1, false},
		"so, all the same":                {[]impl.Stmt{draw(1, someW), by(3, 1, same)}, 3, 1, true},
		"by one that is known":            {[]impl.Stmt{draw(1, [3]int{0, 0, 4}), by(3, 1, someW)}, 3, 1, true},
		"a sum and one of it":             {sum, 0, 2, true},
		"a sum and the other of it":       {sum, 2, 1, true},
		"both of a sum":                   {sum, 0, 1, true},
		"both of a sum that is seen":      {seen, 0, 1, false},
		"so, the sum and one of it":       {seen, 0, 2, true},
		"weighed together":                {[]impl.Stmt{draw(0, same), draw(1, same), {Kind: impl.StWeighBy, A: 0, B: 1, W: someW}}, 0, 1, false},
		"weighed to nothing":              {[]impl.Stmt{draw(0, same), {Kind: impl.StWeigh, A: 1, W: [3]int{0, 1, 1}}}, 0, 1, true},
		"one that hangs on what is known": {[]impl.Stmt{draw(0, same), {Kind: impl.StSet, A: 1, B: 3, C: 2}}, 0, 1, true},
	} {
		list := impl.WeightsOf(c.p)
		if impl.Apart(list, c.a, c.b) != c.apart {
			t.Errorf("%s: Apart = %v", name, !c.apart)
		}
		checkList(t, list)
	}
}

func wantNoMarginal(t *testing.T, list []int, v int) {
	t.Helper()
	if got, ok := impl.MarginalOf(list, v); ok || len(got) != 0 {
		t.Errorf("MarginalOf of %d numbers, %d = %v", len(list), v, got)
	}
	a, b, ok := impl.MeanOf(list, v)
	wantFraction(t, "MeanOf", a, b, ok, 0, 0, false)
	for value := -1; value <= 3; value++ {
		wantNotGiven(t, list, v, value)
	}
	for u := -1; u <= 4; u++ {
		if impl.Apart(list, u, v) || impl.Apart(list, v, u) {
			t.Errorf("Apart of %d numbers, %d, %d", len(list), u, v)
		}
	}
}

func wantNotGiven(t *testing.T, list []int, v int, value int) {
	t.Helper()
	if got, ok := impl.GivenOf(list, v, value); ok || len(got) != 0 {
		t.Errorf("GivenOf of %d numbers, %d, %d = %v", len(list), v, value, got)
	}
}

func TestListsThatAreNone(t *testing.T) {
	for _, list := range wrongLists() {
		for v := range 4 {
			wantNoMarginal(t, list, v)
		}
	}
	for _, list := range someLists()[:8] {
		for _, v := range wrongIndexes {
			wantNoMarginal(t, list, v)
		}
		for v := range 4 {
			wantNotGiven(t, list, v, 3)
			for _, value := range wrongIndexes {
				wantNotGiven(t, list, v, value)
			}
		}
		for v := range 4 {
			if impl.Apart(list, v, v) {
				t.Errorf("%d is apart from itself", v)
			}
		}
	}
}

// checkAnswer compares AnswerOf with the runs of a program, however great their weights are.
func checkAnswer(t *testing.T, p []impl.Stmt) {
	t.Helper()
	list, ok := programWanted(p)
	var want []int
	if ok {
		want = weightsWanted(list, 0)
		ok = sumOf(want) > 0
	}
	got, gotOk := impl.AnswerOf(p)
	if gotOk != ok || impl.SameAnswer(p, p) != ok {
		t.Fatalf("AnswerOf %v = %v, %v; want %v", p, got, gotOk, ok)
	}
	if !ok {
		if len(got) != 0 {
			t.Fatalf("AnswerOf %v = %v", p, got)
		}
		return
	}
	common := new(big.Int)
	for _, weight := range want {
		common.GCD(nil, nil, common, big.NewInt(int64(weight)))
	}
	for i := range want {
		want[i] /= int(common.Int64())
	}
	if !slices.Equal(got, want) {
		t.Fatalf("AnswerOf %v = %v; want %v", p, got, want)
	}
}

func TestAnswersOfAll(t *testing.T) {
	for _, p := range smallPrograms() {
		checkAnswer(t, p)
	}
	for i := range 1500 {
		p := wideStmts(i, 2+i%9)
		if impl.CountDraws(p) <= 7 {
			checkAnswer(t, p)
		}
	}
}

// Answers are reduced also where weights are greater than the numbers of lists may be.
func TestGreatestAnswers(t *testing.T) {
	nines := impl.Stmt{Kind: impl.StDraw, A: 2, W: [3]int{9, 9, 9}}
	for n := 1; n <= 10; n++ {
		got, ok := impl.AnswerOf(times(nines, n))
		if !ok || !slices.Equal(got, listOf(stateWeight{0, 1}, stateWeight{9, 1}, stateWeight{18, 1})) {
			t.Errorf("%d draws: %v, %v", n, got, ok)
		}
	}
	lone := join(times(loop(3, 3), 1), []impl.Stmt{
		{Kind: impl.StDraw, A: 0, W: [3]int{8, 9, 0}},
		{Kind: impl.StWeigh, A: 0, W: [3]int{8, 9, 0}},
		{Kind: impl.StWeigh, A: 0, W: [3]int{8, 9, 0}},
		{Kind: impl.StWeigh, A: 0, W: [3]int{8, 9, 0}},
		{Kind: impl.StWeigh, A: 0, W: [3]int{8, 9, 0}},
		{Kind: impl.StWeigh, A: 0, W: [3]int{8, 9, 0}},
	})
	// The first two rounds are (8^3 + 9^3)^2 in both states; the third one, and what is behind it, 8^6 or 9^6.
	got, ok := impl.AnswerOf(lone)
	if !ok || !slices.Equal(got, listOf(stateWeight{0, 262144}, stateWeight{1, 531441})) {
		t.Errorf("three rounds: %v, %v", got, ok)
	}
	great := []impl.Stmt{{Kind: impl.StDraw, A: 0, W: [3]int{7, 9, 0}}}
	for range 9 {
		great = append(great, impl.Stmt{Kind: impl.StWeigh, A: 0, W: [3]int{7, 9, 0}})
	}
	got, ok = impl.AnswerOf(great)
	if !ok || !slices.Equal(got, listOf(stateWeight{0, 282475249}, stateWeight{1, 3486784401})) {
		t.Errorf("ten weights: %v, %v", got, ok)
	}
	if !impl.SameAnswer(great, great) || impl.SameAnswer(great, lone) {
		t.Error("great answers are the same")
	}
}

func TestSameAnswers(t *testing.T) {
	var some [][]impl.Stmt
	for i, r := range runStmts {
		some = append(some, []impl.Stmt{r}, wideStmts(i, 3), wideStmts(i, 5))
	}
	some = append(some, nil, []impl.Stmt{{Kind: impl.StWeigh, W: [3]int{0, 1, 1}}}, []impl.Stmt{{Kind: 8}})
	same := 0
	for _, p := range some {
		for _, q := range some {
			first, ok := impl.AnswerOf(p)
			second, alsoOk := impl.AnswerOf(q)
			want := ok && alsoOk && slices.Equal(first, second)
			if impl.SameAnswer(p, q) != want {
				t.Fatalf("SameAnswer %v, %v = %v", p, q, !want)
			}
			if want {
				same++
			}
		}
	}
	if same < len(some) || same > len(some)*len(some)/2 {
		t.Errorf("%d answers of %d programs are the same", same, len(some))
	}
}

func TestAnswersByHand(t *testing.T) {
	draw := func(v int, w [3]int) impl.Stmt { return impl.Stmt{Kind: impl.StDraw, A: v, W: w} }
	weigh := func(v int, w [3]int) impl.Stmt { return impl.Stmt{Kind: impl.StWeigh, A: v, W: w} }
	never := weigh(0, [3]int{0, 1, 1})
	none := []impl.Stmt{{Kind: impl.StDraw}}
	// With all others set to the variable 0, a draw of it leads to the states 0, 40 and 80.
	toAll := []impl.Stmt{{Kind: impl.StSet, A: 1}, {Kind: impl.StSet, A: 2}, {Kind: impl.StSet, A: 3}}
	for name, c := range map[string]struct {
		p, q []impl.Stmt
		same bool
	}{
		"nothing and nothing":         {nil, nil, true},
		"nothing and weights":         {nil, []impl.Stmt{weigh(2, [3]int{7, 0, 0})}, true},
		"nothing and a draw":          {nil, []impl.Stmt{draw(0, [3]int{1, 1, 0})}, false},
		"weights and half of them":    {[]impl.Stmt{draw(0, [3]int{2, 4, 0})}, []impl.Stmt{draw(0, [3]int{1, 2, 0})}, true},
		"weights of another one":      {[]impl.Stmt{draw(0, [3]int{2, 4, 0})}, []impl.Stmt{draw(1, [3]int{2, 4, 0})}, false},
		"other weights":               {[]impl.Stmt{draw(0, [3]int{2, 4, 0})}, []impl.Stmt{draw(0, [3]int{2, 5, 0})}, false},
		"only the last value differs": {[]impl.Stmt{draw(3, [3]int{1, 1, 1})}, []impl.Stmt{draw(3, [3]int{1, 1, 2})}, false},
		"only the last state differs": {join([]impl.Stmt{draw(0, [3]int{1, 0, 1})}, toAll), join([]impl.Stmt{draw(0, [3]int{1, 0, 2})}, toAll), false},
		"drawn and then weighed":      {[]impl.Stmt{draw(1, [3]int{1, 2, 3}), weigh(1, [3]int{3, 2, 1})}, []impl.Stmt{draw(1, [3]int{3, 4, 3})}, true},
		"a total of 0":                {[]impl.Stmt{never}, []impl.Stmt{never}, false},
		"two totals of 0":             {[]impl.Stmt{never, draw(0, someW)}, []impl.Stmt{never}, false},
		"a total of 0 behind":         {nil, []impl.Stmt{draw(1, someW), never}, false},
		"a total of 0 ahead":          {[]impl.Stmt{draw(1, someW), never}, nil, false},
		"no programs":                 {none, none, false},
		"no program ahead":            {none, nil, false},
		"no program behind":           {nil, none, false},
		"no program, and a total 0":   {none, []impl.Stmt{never}, false},
	} {
		if impl.SameAnswer(c.p, c.q) != c.same || impl.SameAnswer(c.q, c.p) != c.same {
			t.Errorf("%s: %v, %v", name, impl.SameAnswer(c.p, c.q), impl.SameAnswer(c.q, c.p))
		}
		checkAnswer(t, c.p)
		checkAnswer(t, c.q)
	}
	for _, p := range [][]impl.Stmt{times(set0, 11), {loop(1, 1)}, {loop(1, 0), none[0]}, join(times(loop(3, 3), 1), times(set0, 7))} {
		checkAnswer(t, p)
	}
}

// What is returned is new memory, and what is given stays as it is, also behind its length.
func TestAnswersShareNothing(t *testing.T) {
	whole := slices.Concat(slices.Repeat([]int{6}, 81), slices.Repeat([]int{5}, 20))
	stmts := join([]impl.Stmt{draw1, drawBy}, times(weigh3, 20))
	list, before := whole[:81], slices.Clone(whole)
	p, beforeStmts := stmts[:2], slices.Clone(stmts)
	noughts := slices.Repeat([]int{0}, 90)
	want, _ := impl.AnswerOf(p)
	want = slices.Clone(want)
	for range 2 {
		reduced := impl.Reduced(list)
		asTheyAre := impl.Reduced(noughts[:3])
		one := impl.Reduced([]int{1})
		marginal, _ := impl.MarginalOf(list, 1)
		given, _ := impl.GivenOf(list, 1, 2)
		none, _ := impl.GivenOf(noughts[:81], 0, 0)
		answer, _ := impl.AnswerOf(p)
		if reduced[80] != 1 || one[0] != 1 || marginal[0] != 162 || given[6] != 6 || !slices.Equal(answer, want) {
			t.Errorf("answers hang on those that were told: %v, %v, %v, %v", reduced, marginal, given, answer)
		}
		for _, made := range [][]int{reduced, asTheyAre, one, marginal, given, none, answer} {
			spoil(made)
		}
	}
	impl.MeanOf(list, 2)
	impl.Apart(list, 0, 1)
	impl.SameAnswer(p, p)
	if !slices.Equal(whole, before) || !slices.Equal(stmts, beforeStmts) || slices.Max(noughts) != 0 || slices.Min(noughts) != 0 {
		t.Error("what was given is changed")
	}
}
