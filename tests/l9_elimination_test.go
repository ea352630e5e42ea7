package tests

import (
	"math"
	"slices"
	"testing"

	"loop.example/wholechance/impl"
)

// orderWanted reports whether numbers are different variables, by each two of them.
func orderWanted(order []int) bool {
	for i, v := range order {
		if v < 0 || v > 3 || slices.Contains(order[:i], v) {
			return false
		}
	}
	return true
}

// allOrders are all orders of some of the variables, ascending by length, and
// then by the first number that differs.
func allOrders() [][]int {
	orders := [][]int{nil}
	for at := 0; at < len(orders); at++ {
		for v := range 4 {
			if !slices.Contains(orders[at], v) {
				orders = append(orders, rowWith(orders[at], v))
			}
		}
	}
	return orders
}

// listWanted reports whether factors are a list as ListOfFactors takes it.
func listWanted(list []impl.Factor) bool {
	for _, f := range list {
		if !factorWanted(f) || slices.Max(f.Nums) > 9 {
			return false
		}
	}
	return len(list) <= 8
}

// productFor is the product of the numbers of factors for values.
func productFor(list []impl.Factor, values [4]int) int {
	product := 1
	for _, f := range list {
		product *= numberFor(f, values)
	}
	return product
}

// withoutWanted follows the document's sentence of the elimination of a variable.
func withoutWanted(list []impl.Factor, v int) []impl.Factor {
	var having, rest []impl.Factor
	vars := 0
	for _, f := range list {
		if slices.Contains(f.Vars, v) {
			having = append(having, f)
			vars |= setFor(f.Vars)
		} else {
			rest = append(rest, f)
		}
	}
	if len(having) == 0 {
		return append(rest, over(nil, 3))
	}
	return append(rest, filled(vars-bit(v), func(values [4]int) int {
		sum := 0
		for value := range 3 {
			values[v] = value
			sum += productFor(having, values)
		}
		return sum
	}))
}

// leftWanted is the product of what is left behind an order, one variable behind the other.
func leftWanted(list []impl.Factor, order []int) impl.Factor {
	for _, v := range order {
		list = withoutWanted(list, v)
	}
	return filled(15-setFor(order), func(values [4]int) int { return productFor(list, values) })
}

// summedWanted is the sum, over all values of the variables of an order, of the
// product of all factors: in this no variable is ahead of another one.
func summedWanted(products []int, order []int) impl.Factor {
	return filled(15-setFor(order), func(values [4]int) int {
		sum := 0
		for state, product := range products {
			same := true
			for v, value := range valuesIn(state) {
				same = same && (value == values[v] || slices.Contains(order, v))
			}
			if same {
				sum += product
			}
		}
		return sum
	})
}

// behind is what comes of sets of variables, as those of factors, by elimination,
// and how many variables its product has.
func behind(sets []int, v int) ([]int, int) {
	var rest []int
	product := bit(v)
	for _, set := range sets {
		if has(set, v) {
			product |= set
		} else {
			rest = append(rest, set)
		}
	}
	many := 0
	for other := range 4 {
		many += product >> other & 1
	}
	return append(rest, product-bit(v)), many
}

func widthWanted(sets []int, order []int) int {
	most := 0
	for _, v := range order {
		var many int
		sets, many = behind(sets, v)
		most = max(most, many)
	}
	return most
}

// bestWanted goes through all orders of all variables.
func bestWanted(sets []int) []int {
	var best []int
	for _, order := range allOrders() {
		if len(order) == 4 && (len(best) == 0 || widthWanted(sets, order) < widthWanted(sets, best)) {
			best = order
		}
	}
	return best
}

func greedyWanted(sets []int) []int {
	var order []int
	for range 4 {
		next, fewest := -1, 5
		for v := range 4 {
			if _, many := behind(sets, v); many < fewest && !slices.Contains(order, v) {
				next, fewest = v, many
			}
		}
		order = append(order, next)
		sets, _ = behind(sets, next)
	}
	return order
}

func setsFor(list []impl.Factor) []int {
	var sets []int
	for _, f := range list {
		sets = append(sets, setFor(f.Vars))
	}
	return sets
}

// overSets are factors over sets of variables, with numbers from 0 to 9 that hang on a number.
func overSets(number int, sets []int) []impl.Factor {
	var list []impl.Factor
	for i, vars := range sets {
		list = append(list, someFactor(number+i*31, vars, 9))
	}
	return list
}

// checkOrders compares what is told of orders with the document.
func checkOrders(t *testing.T, list []impl.Factor) {
	t.Helper()
	sets := setsFor(list)
	for _, order := range allOrders() {
		if got, want := impl.WidthOf(list, order), widthWanted(sets, order); got != want {
			t.Fatalf("WidthOf %v, %v = %d; want %d", sets, order, got, want)
		}
	}
	if got, ok := impl.BestOrder(list); !ok || !slices.Equal(got, bestWanted(sets)) {
		t.Fatalf("BestOrder %v = %v, %v; want %v", sets, got, ok, bestWanted(sets))
	}
	if got, ok := impl.GreedyOrder(list); !ok || !slices.Equal(got, greedyWanted(sets)) {
		t.Fatalf("GreedyOrder %v = %v, %v; want %v", sets, got, ok, greedyWanted(sets))
	}
}

// checkLeft compares what is left of factors, whatever the order, with sums over
// all values, and so does promise 9: what it is hangs on the set of variables alone.
func checkLeft(t *testing.T, list []impl.Factor) {
	t.Helper()
	products := make([]int, 81)
	for state := range products {
		products[state] = productFor(list, valuesIn(state))
	}
	wanted := make([]impl.Factor, 16)
	for _, order := range allOrders() {
		want := &wanted[setFor(order)]
		if len(want.Nums) == 0 {
			*want = summedWanted(products, order)
		}
		if got, ok := impl.Eliminate(list, order); !ok || !sameFactor(got, *want) {
			t.Fatalf("Eliminate %v, %v = %v, %v; want %v", list, order, got, ok, *want)
		}
	}
}

// checkOne compares the elimination of each variable alone with the document.
func checkOne(t *testing.T, list []impl.Factor) {
	t.Helper()
	for v := range 4 {
		got, ok := impl.EliminateOne(list, v)
		if want := withoutWanted(list, v); !ok || !slices.EqualFunc(got, want, sameFactor) {
			t.Fatalf("EliminateOne %v, %d = %v, %v; want %v", list, v, got, ok, want)
		}
	}
	for _, v := range wrongIndexes {
		if got, ok := impl.EliminateOne(list, v); ok || len(got) != 0 {
			t.Fatalf("EliminateOne %v, %d = %v, %v", list, v, got, ok)
		}
	}
}

// checkNoList sees that of what is no list nothing is told.
func checkNoList(t *testing.T, list []impl.Factor) {
	t.Helper()
	for v := -1; v <= 4; v++ {
		if got, ok := impl.EliminateOne(list, v); ok || len(got) != 0 {
			t.Fatalf("EliminateOne %v, %d = %v, %v", list, v, got, ok)
		}
	}
	for _, order := range [][]int{nil, {2}, {3, 0}, {0, 1, 2, 3}, {3, 2, 1, 0}, {1, 1}, {4}, {-1, 0}} {
		checkNoOrder(t, list, order)
	}
	best, ok := impl.BestOrder(list)
	greedy, alsoOk := impl.GreedyOrder(list)
	if ok || alsoOk || len(best)+len(greedy) != 0 {
		t.Fatalf("%v: BestOrder = %v, %v; GreedyOrder = %v, %v", list, best, ok, greedy, alsoOk)
	}
}

func checkNoOrder(t *testing.T, list []impl.Factor, order []int) {
	t.Helper()
	left, ok := impl.Eliminate(list, order)
	if width := impl.WidthOf(list, order); !noneAt(left, ok) || width != -1 {
		t.Fatalf("%v, %v: Eliminate = %v, %v; WidthOf = %d", list, order, left, ok, width)
	}
}

func checkEliminated(t *testing.T, list []impl.Factor) {
	t.Helper()
	if !listWanted(list) {
		checkNoList(t, list)
		return
	}
	checkOrders(t, list)
	checkOne(t, list)
	checkLeft(t, list)
}

// All rows of up to five numbers about the variables, and greater ones and longer ones.
func TestOrdersThatAreOnes(t *testing.T) {
	list := overSets(4, []int{3, 6, 12, 0})
	many := 0
	check := func(order []int) {
		t.Helper()
		ok := orderWanted(order)
		if got := impl.OrderOk(order); got != ok {
			t.Fatalf("OrderOk %v = %v", order, got)
		}
		if !ok {
			checkNoOrder(t, list, order)
			checkNoOrder(t, nil, order)
			return
		}
		many++
		left, alsoOk := impl.Eliminate(list, order)
		if width := impl.WidthOf(list, order); !alsoOk || len(left.Vars) != 4-len(order) || width != widthWanted(setsFor(list), order) {
			t.Fatalf("%v: Eliminate = %v, %v; WidthOf = %d", order, left, alsoOk, width)
		}
	}
	rows := [][]int{nil}
	for at := 0; at < len(rows); at++ {
		check(rows[at])
		for v := -1; v <= 4 && len(rows[at]) < 5; v++ {
			rows = append(rows, rowWith(rows[at], v))
		}
	}
	if many != 65 {
		t.Errorf("%d orders", many)
	}
	check([]int{})
	for _, v := range []int{math.MinInt, -64, -4, 4, 5, 8, 32, 63, 64, 65, 1 << 32, 1<<32 + 1, math.MaxInt} {
		check([]int{v})
		check([]int{v, v})
		check([]int{0, v})
		check([]int{v, 3})
		check([]int{0, 1, 2, v})
		check([]int{0, 1, 2, 3, v})
	}
	for _, long := range [][]int{slices.Repeat([]int{0}, 1000), slices.Repeat([]int{3, 2, 1, 0}, 1000)} {
		check(long)
	}
}

// All lists of at most MaxFactors different sets of two or more variables, to
// some of which others are added that do or do not matter.
func TestOrdersOfAllSets(t *testing.T) {
	wide := []int{3, 5, 9, 6, 10, 12, 7, 11, 13, 14, 15}
	many := 0
	for chosen := range 1 << len(wide) {
		var sets []int
		for i, vars := range wide {
			if has(chosen, i) {
				sets = append(sets, vars)
			}
		}
		if len(sets) > 8 {
			continue
		}
		many++
		checkOrders(t, overSets(chosen, sets))
		slices.Reverse(sets)
		for len(sets) < 8 {
			sets = append(sets, []int{0, 1, 2, 4, 8, 3, 12}[(chosen+many*len(sets))%7])
			if many%5 == len(sets)%5 {
				checkOrders(t, overSets(chosen, sets))
			}
		}
	}
	if many != 1981 {
		t.Errorf("%d lists", many)
	}
}

// All lists of at most two sets of variables, and of many of more.
func TestEliminationOfAllSets(t *testing.T) {
	checkEliminated(t, nil)
	checkEliminated(t, []impl.Factor{})
	for first := range 16 {
		checkEliminated(t, overSets(first, []int{first}))
		for second := range 16 {
			checkEliminated(t, overSets(first+second, []int{first, second}))
		}
	}
	for i := range 150 {
		checkEliminated(t, someFactors(i, 3+i%6, 9))
		checkEliminated(t, someFactors(i, 3+i%6, 1))
	}
}

// One behind the other, as the document says it, and all at once leave the same.
func TestEliminationStepByStep(t *testing.T) {
	for i := range 6 {
		list := someFactors(i*17+3, 2+i, 9)
		for _, order := range allOrders() {
			got, ok := impl.Eliminate(list, order)
			if want := leftWanted(list, order); !ok || !sameFactor(got, want) {
				t.Fatalf("Eliminate %v, %v = %v, %v; want %v", list, order, got, ok, want)
			}
		}
	}
	// Small numbers remain those of a list, so that EliminateOne takes what it has told.
	for i := range 200 {
		list := overSets(i, []int{i % 16, i / 16 % 16, i / 5 % 16})
		for _, f := range list {
			for at, number := range f.Nums {
				f.Nums[at] = number / 9
			}
		}
		checkOneByOne(t, list, allOrders()[i%65])
	}
}

func checkOneByOne(t *testing.T, list []impl.Factor, order []int) {
	t.Helper()
	rest := list
	for _, v := range order {
		next, ok := impl.EliminateOne(rest, v)
		if ok != listWanted(rest) {
			t.Fatalf("EliminateOne %v, %d = %v, %v", rest, v, next, ok)
		}
		if !ok {
			return
		}
		rest = next
	}
	product := over(nil, 1)
	for _, f := range rest {
		product, _ = impl.FactorTimes(product, f)
	}
	for v := range 4 {
		if !slices.Contains(order, v) {
			product, _ = impl.FactorTimes(product, over([]int{v}, 1, 1, 1))
		}
	}
	if got, ok := impl.Eliminate(list, order); !ok || !sameFactor(got, product) {
		t.Fatalf("Eliminate %v, %v = %v, %v; one by one %v", list, order, got, ok, product)
	}
}

// What is left is what chapters 4, 7 and 8 tell of the product of a list, and of
// the weights of a single program.
func TestEliminationIsSums(t *testing.T) {
	some := singleStmts()
	many := 0
	for i := range 1500 {
		p := []impl.Stmt{some[i%32], some[i/32%32], some[i/5%32], some[i/7%32]}[:i%5]
		list, ok := impl.FactorsOf(p)
		if !ok {
			continue
		}
		many++
		weights, _ := impl.ListOfFactors(list)
		order, _ := impl.GreedyOrder(list)
		for n := range 5 {
			checkSeenLeft(t, p, list, order[:n])
		}
		slices.Reverse(order)
		for v := range 4 {
			others := slices.DeleteFunc(slices.Clone(order), func(other int) bool { return other == v })
			marginal, _ := impl.MarginalOf(weights, v)
			if got, ok := impl.Eliminate(list, others); !ok || !sameFactor(got, over([]int{v}, marginal...)) {
				t.Fatalf("Eliminate of %v, %v = %v, %v; want %v", p, others, got, ok, marginal)
			}
		}
	}
	if many < 500 {
		t.Errorf("only %d single programs", many)
	}
}

func checkSeenLeft(t *testing.T, p []impl.Stmt, list []impl.Factor, order []int) {
	t.Helper()
	left, ok := impl.Eliminate(list, order)
	seen, _ := impl.SeenOf(p, 15-setFor(order))
	want := filled(15-setFor(order), func(values [4]int) int {
		return seen[values[0]+3*values[1]+9*values[2]+27*values[3]]
	})
	if !ok || !sameFactor(left, want) {
		t.Fatalf("Eliminate of %v, %v = %v, %v; want %v", p, order, left, ok, want)
	}
}

// wantOrders compares what is told of sets of variables with orders, and with the width of both.
func wantOrders(t *testing.T, name string, sets []int, width int, best []int, greedy []int) {
	t.Helper()
	list := overSets(1, sets)
	if got, ok := impl.BestOrder(list); !ok || !slices.Equal(got, best) {
		t.Errorf("%s: BestOrder = %v, %v", name, got, ok)
	}
	if got, ok := impl.GreedyOrder(list); !ok || !slices.Equal(got, greedy) {
		t.Errorf("%s: GreedyOrder = %v, %v", name, got, ok)
	}
	if got, also := impl.WidthOf(list, best), impl.WidthOf(list, greedy); got != width || also != width {
		t.Errorf("%s: WidthOf = %d and %d", name, got, also)
	}
	checkEliminated(t, list)
}

func TestOrdersByHand(t *testing.T) {
	count := []int{0, 1, 2, 3}
	wantOrders(t, "no factors", nil, 1, count, count)
	wantOrders(t, "one without variables", []int{0}, 1, count, count)
	wantOrders(t, "the first variable alone, as good as none", []int{1}, 1, count, count)
	wantOrders(t, "the last variable alone", []int{8, 8, 0}, 1, count, count)
	wantOrders(t, "each alone", []int{8, 4, 2, 1}, 1, count, count)
	wantOrders(t, "two together, and two that no factor has", []int{3}, 2, count, []int{2, 3, 0, 1})
	wantOrders(t, "so, and these have one each", []int{3, 4, 8}, 2, count, []int{2, 3, 0, 1})
	wantOrders(t, "two pairs", []int{10, 5}, 2, count, []int{0, 2, 1, 3})
	wantOrders(t, "the example", []int{3, 6, 12}, 2, count, count)
	wantOrders(t, "a chain from 0 to 1 over 3 and 2", []int{9, 12, 6}, 2, count, count)
	wantOrders(t, "a chain from 1 to 2 over 0 and 3", []int{12, 9, 3}, 2, []int{1, 0, 2, 3}, []int{1, 0, 2, 3})
	wantOrders(t, "a chain from 1 to 3 over 0 and 2", []int{12, 3, 5}, 2, []int{1, 0, 2, 3}, []int{1, 0, 2, 3})
	wantOrders(t, "a star about 0", []int{3, 5, 9}, 2, []int{1, 2, 0, 3}, []int{1, 2, 0, 3})
	wantOrders(t, "a star about 3", []int{9, 10, 12}, 2, count, count)
	wantOrders(t, "a circle of three", []int{3, 6, 5}, 3, count, []int{3, 0, 1, 2})
	wantOrders(t, "so, and one beside it", []int{3, 6, 5, 9}, 3, []int{1, 0, 2, 3}, []int{3, 0, 1, 2})
	wantOrders(t, "three together", []int{14}, 3, count, count)
	wantOrders(t, "three together, and one of them with another one", []int{7, 9}, 3, []int{1, 0, 2, 3}, []int{3, 0, 1, 2})
	wantOrders(t, "a circle of four", []int{3, 6, 12, 9}, 3, count, count)
	wantOrders(t, "so, with one across", []int{3, 6, 12, 9, 5}, 3, []int{1, 0, 2, 3}, []int{1, 0, 2, 3})
	wantOrders(t, "each two", []int{3, 5, 9, 6, 10, 12}, 4, count, count)
	wantOrders(t, "all together", []int{15}, 4, count, count)
	wantOrders(t, "each three", []int{7, 11, 13, 14}, 4, count, count)
	wantOrders(t, "three and three", []int{7, 14}, 3, count, count)
	wantOrders(t, "three and three, the first one in both", []int{7, 13}, 3, []int{1, 0, 2, 3}, []int{1, 0, 2, 3})
}

func TestWidthsByHand(t *testing.T) {
	chain := overSets(1, []int{3, 6, 12})
	for _, c := range []struct {
		list  []impl.Factor
		order []int
		want  int
	}{
		{chain, nil, 0},
		{chain, []int{}, 0},
		{nil, nil, 0},
		{nil, []int{2}, 1},
		{nil, []int{3, 2, 1, 0}, 1},
		{chain, []int{0}, 2},
		{chain, []int{1}, 3},
		{chain, []int{1, 0}, 3},
		{chain, []int{0, 1}, 2},
		{chain, []int{1, 2}, 3},
		{chain, []int{3, 0, 2, 1}, 2},
		{chain, []int{3, 1, 2, 0}, 3},
		{chain[:1], []int{2, 3}, 1},
		{chain[:1], []int{2, 0}, 2},
		{overSets(1, []int{15}), []int{2}, 4},
		{overSets(1, []int{3, 5, 9}), []int{0, 1}, 4},
		{overSets(1, []int{3, 5, 9}), []int{1, 0}, 3},
		{overSets(1, []int{3, 5, 9}), []int{1, 2, 3}, 2},
		{overSets(1, []int{0, 0}), []int{1, 3}, 1},
	} {
		if got := impl.WidthOf(c.list, c.order); got != c.want {
			t.Errorf("WidthOf %v, %v = %d; want %d", setsFor(c.list), c.order, got, c.want)
		}
	}
}

func wantRest(t *testing.T, name string, list []impl.Factor, v int, want ...impl.Factor) {
	t.Helper()
	got, ok := impl.EliminateOne(list, v)
	if !ok || !slices.EqualFunc(got, want, sameFactor) {
		t.Errorf("%s: EliminateOne = %v, %v", name, got, ok)
	}
}

func TestEliminationByHand(t *testing.T) {
	a := over([]int{0, 1}, 1, 2, 3, 4, 5, 6, 7, 8, 9)
	b := over([]int{1, 2}, 1, 0, 0, 0, 2, 0, 0, 0, 3)
	c := over([]int{1}, 2, 0, 1)
	d := over([]int{3}, 5, 6, 7)
	five := over(nil, 5)
	list := []impl.Factor{a, d, b, five, c}
	wantRest(t, "what one factor has", list, 0, d, b, five, c, over([]int{1}, 6, 15, 24))
	wantRest(t, "what three have", list, 1, d, five, over([]int{0, 2}, 2, 4, 6, 0, 0, 0, 21, 24, 27))
	wantRest(t, "what the one in the middle has", list, 2, a, d, five, c, over([]int{1}, 1, 2, 3))
	wantRest(t, "what is alone", list, 3, a, b, five, c, over(nil, 18))
	wantRest(t, "what none has", list[2:], 0, b, five, c, over(nil, 3))
	wantRest(t, "of nothing", nil, 2, over(nil, 3))
	wantRest(t, "of one without variables", []impl.Factor{five}, 3, five, over(nil, 3))
	wantRest(t, "the same twice", []impl.Factor{d, five, d}, 3, five, over(nil, 110))
	for _, one := range []struct {
		list  []impl.Factor
		order []int
		want  impl.Factor
	}{
		{list, []int{0, 2, 3, 1}, over(nil, 90*(6*1*2+24*3*1))},
		{list, []int{1, 3, 0, 2}, over(nil, 90*(6*1*2+24*3*1))},
		{list, []int{3, 1, 0}, over([]int{2}, 90*12, 0, 90*72)},
		{list, []int{2, 3, 0}, over([]int{1}, 90*12, 0, 90*72)},
		{list, []int{0, 1, 2}, over([]int{3}, 5*84*5, 6*84*5, 7*84*5)},
		{list, []int{3, 1}, over([]int{0, 2}, 180, 360, 540, 0, 0, 0, 1890, 2160, 2430)},
		{nil, []int{2, 0, 1, 3}, over(nil, 81)},
		{nil, []int{2, 0, 1}, over([]int{3}, 27, 27, 27)},
		{nil, []int{2, 0}, over([]int{1, 3}, 9, 9, 9, 9, 9, 9, 9, 9, 9)},
		{[]impl.Factor{five}, []int{1, 2, 3}, over([]int{0}, 135, 135, 135)},
		{[]impl.Factor{five, five}, []int{0, 1, 2, 3}, over(nil, 2025)},
		{[]impl.Factor{d}, []int{0, 1, 2}, over([]int{3}, 135, 162, 189)},
		{[]impl.Factor{d}, []int{3, 1, 2}, over([]int{0}, 162, 162, 162)},
		{[]impl.Factor{d, d, five}, []int{2, 3, 1, 0}, over(nil, 110*5*27)},
	} {
		got, ok := impl.Eliminate(one.list, one.order)
		wantFactor(t, "Eliminate", got, ok, one.want)
	}
}

// Behind an order of no variables all are left: also those that no factor has.
func TestNothingEliminated(t *testing.T) {
	ones := over([]int{0, 1, 2, 3}, slices.Repeat([]int{1}, 81)...)
	got, ok := impl.Eliminate(nil, nil)
	wantFactor(t, "nothing of nothing", got, ok, ones)
	got, ok = impl.Eliminate([]impl.Factor{}, []int{})
	wantFactor(t, "nothing of nothing that is not nil", got, ok, ones)
	for i := range 200 {
		list := someFactors(i, i%9, 9)
		weights, _ := impl.ListOfFactors(list)
		got, ok := impl.Eliminate(list, nil)
		wantFactor(t, "nothing", got, ok, over([]int{0, 1, 2, 3}, weights...))
		if width := impl.WidthOf(list, nil); width != 0 {
			t.Errorf("WidthOf %v, nothing = %d", setsFor(list), width)
		}
	}
}

// As many factors as there may be, with the greatest numbers: what comes of them
// may be more factors, and greater numbers, than those of a list, or of one factor.
func TestGreatestElimination(t *testing.T) {
	const most = 43046721 // 9 to the power of 8
	for vars := range 16 {
		nines := filled(vars, func([4]int) int { return 9 })
		list := slices.Repeat([]impl.Factor{nines}, 8)
		for v := range 4 {
			rest, ok := impl.EliminateOne(list, v)
			if !has(vars, v) {
				if !ok || len(rest) != 9 || !slices.EqualFunc(rest, append(slices.Clone(list), over(nil, 3)), sameFactor) {
					t.Errorf("EliminateOne %d, %d = %v, %v", vars, v, rest, ok)
				}
			} else if !ok || len(rest) != 1 || !sameFactor(rest[0], filled(vars-bit(v), func([4]int) int { return 3 * most })) {
				t.Errorf("EliminateOne %d, %d = %v, %v", vars, v, rest, ok)
			}
			checkNoList(t, rest)
		}
		for _, order := range allOrders() {
			sum := most
			for range order {
				sum *= 3
			}
			got, ok := impl.Eliminate(list, order)
			wantFactor(t, "the greatest numbers", got, ok, filled(15-setFor(order), func([4]int) int { return sum }))
		}
		noughts := filled(vars, func([4]int) int { return 0 })
		checkLeft(t, append(slices.Clone(list[1:]), noughts))
		checkNoList(t, append(slices.Clone(list), nines))
	}
}

// wrongFactors are none that a list has.
func wrongFactors() []impl.Factor {
	return []impl.Factor{
		{}, over(nil, 10), over(nil, -1), over(nil, 1, 1), over([]int{0}, 1, 1), over([]int{4}, 1, 1, 1), over([]int{-1}, 1, 1, 1),
		over([]int{1, 1}, 1, 1, 1, 1, 1, 1, 1, 1, 1), over([]int{1, 0}, 1, 1, 1, 1, 1, 1, 1, 1, 1), over([]int{2}, 0, 0, 10),
		over([]int{2}, 0, -1, 9), over([]int{3}, maxNumber, 0, 0), over([]int{3}, 0, 0, math.MinInt), over([]int{3}, math.MaxInt, 0, 0),
		over([]int{0, 1, 2, 3, 3}, slices.Repeat([]int{1}, 243)...), over([]int{0, 1, 2, 3}, slices.Repeat([]int{1}, 80)...),
	}
}

// What is no list has no elimination, whatever is wrong with it and wherever.
func TestEliminationOfNoLists(t *testing.T) {
	for _, f := range wrongFactors() {
		checkNoList(t, []impl.Factor{f})
		for at := range 9 {
			checkNoList(t, slices.Insert(overSets(at, []int{1, 2, 6, 12, 0, 15, 7, 8}[:max(at, 3)]), at, f))
		}
	}
	for many := 9; many < 20; many++ {
		for _, f := range []impl.Factor{over(nil, 1), over([]int{1}, 0, 1, 0), {}} {
			checkNoList(t, slices.Repeat([]impl.Factor{f}, many))
		}
	}
}

// What is returned is new memory, of which no two lists share any, and what is
// given stays as it is, also behind its length.
func TestEliminationSharesNothing(t *testing.T) {
	for i := range 40 {
		list := make([]impl.Factor, 0, 12)
		var wholes, before []impl.Factor
		for _, f := range someFactors(i, i%8, 9) {
			f, whole := roomy(f)
			list = append(list, f)
			wholes = append(wholes, whole)
			before = append(before, over(slices.Clone(whole.Vars), slices.Clone(whole.Nums)...))
		}
		if len(list) > 0 {
			// The same memory twice in what is given is not the same in what is returned.
			list = append(list, list[0])
		}
		order := append(make([]int, 0, 9), allOrders()[i%65]...)
		for range 2 {
			checkOne(t, list)
			checkOrders(t, list)
			checkRestApart(t, list)
			left, ok := impl.Eliminate(list, order)
			if want := leftWanted(list, order); !ok || !sameFactor(left, want) {
				t.Fatalf("Eliminate %v, %v = %v; want %v", list, order, left, want)
			}
			spoilFactor(left)
			best, _ := impl.BestOrder(list)
			spoil(best)
			greedy, _ := impl.GreedyOrder(list)
			spoil(greedy)
		}
		if !slices.EqualFunc(wholes, before, sameFactor) || !slices.Equal(order, allOrders()[i%65]) {
			t.Fatal("what was given is changed")
		}
		for _, f := range list[len(list):cap(list)] {
			if len(f.Vars)+len(f.Nums) != 0 {
				t.Fatal("what is behind the list that was given is changed")
			}
		}
		if slices.ContainsFunc(order[len(order):cap(order)], func(n int) bool { return n != 0 }) {
			t.Fatal("what is behind the order that was given is changed")
		}
	}
}

// checkRestApart writes over each factor that is left, and sees that those behind it stay.
func checkRestApart(t *testing.T, list []impl.Factor) {
	t.Helper()
	for v := range 4 {
		want := withoutWanted(list, v)
		rest, _ := impl.EliminateOne(list, v)
		for i, f := range rest {
			if !sameFactor(f, want[i]) {
				t.Fatalf("the factor %d of %v without %d is changed: %v", i, list, v, f)
			}
			spoilFactor(f)
		}
		full := rest[:cap(rest)]
		for i := range full {
			full[i] = over([]int{-1}, -1)
		}
	}
}
