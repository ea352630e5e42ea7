package tests

import (
	"slices"
	"testing"

	"loop.example/wholechance/impl"
)

// forestWanted reports whether factors are a forest: a variable with at most one
// pair is in no circle, so that its pairs may go, again and again, until none is left.
func forestWanted(list []impl.Factor) bool {
	if !listWanted(list) {
		return false
	}
	var pairs []int
	for _, f := range list {
		switch len(f.Vars) {
		case 1:
		case 2:
			pairs = append(pairs, setFor(f.Vars))
		default:
			return false
		}
	}
	for range 4 {
		for v := range 4 {
			having := func(pair int) bool { return has(pair, v) }
			if rest := slices.DeleteFunc(slices.Clone(pairs), having); len(rest)+1 >= len(pairs) {
				pairs = rest
			}
		}
	}
	return len(pairs) == 0
}

// pairFor is the factor of two variables, if they have one.
func pairFor(list []impl.Factor, a int, b int) (impl.Factor, bool) {
	for _, f := range list {
		if len(f.Vars) == 2 && slices.Contains(f.Vars, a) && slices.Contains(f.Vars, b) && a != b {
			return f, true
		}
	}
	return impl.Factor{}, false
}

func nextWanted(list []impl.Factor, v int) []int {
	var next []int
	for other := range 4 {
		if _, ok := pairFor(list, v, other); ok {
			next = append(next, other)
		}
	}
	return next
}

func ownWanted(list []impl.Factor, v int) []int {
	own := []int{1, 1, 1}
	for _, f := range list {
		if slices.Equal(f.Vars, []int{v}) {
			for value := range own {
				own[value] *= f.Nums[value]
			}
		}
	}
	return own
}

// messageWanted follows the document's sentence, message by message.
func messageWanted(list []impl.Factor, from int, to int) []int {
	known := knownWanted(list, from, to)
	f, _ := pairFor(list, from, to)
	message := make([]int, 3)
	for value := range message {
		for own, number := range known {
			var values [4]int
			values[from], values[to] = own, value
			message[value] += numberFor(f, values) * number
		}
	}
	return message
}

// knownWanted is OwnOf, times all messages from those next to a variable, but one.
func knownWanted(list []impl.Factor, v int, but int) []int {
	known := ownWanted(list, v)
	for _, next := range nextWanted(list, v) {
		if next == but {
			continue
		}
		for value, number := range messageWanted(list, next, v) {
			known[value] *= number
		}
	}
	return known
}

// reachFor is the set of the variables to which a way over pairs leads from one,
// that does not come to another one.
func reachFor(list []impl.Factor, v int, but int) int {
	reach := bit(v)
	for range 4 {
		for a := range 4 {
			for _, b := range nextWanted(list, a) {
				if has(reach, a) && b != but {
					reach |= bit(b)
				}
			}
		}
	}
	return reach
}

func treesWanted(list []impl.Factor) []int {
	trees := make([]int, 4)
	for v := range trees {
		for !has(reachFor(list, v, -1), trees[v]) {
			trees[v]++
		}
	}
	return trees
}

// sumsFor is for each value of a variable the sum, over all values of the others
// of a set, of the product of all factors that have no variables but those of the set.
func sumsFor(list []impl.Factor, vars int, v int) []int {
	var some []impl.Factor
	for _, f := range list {
		if setFor(f.Vars)|vars == vars {
			some = append(some, f)
		}
	}
	sums := make([]int, 3)
	filled(vars, func(values [4]int) int {
		sums[values[v]] += productFor(some, values)
		return 0
	})
	return sums
}

// withoutAlone are the factors that are not of one variable alone.
func withoutAlone(list []impl.Factor, v int) []impl.Factor {
	return slices.DeleteFunc(slices.Clone(list), func(f impl.Factor) bool { return slices.Equal(f.Vars, []int{v}) })
}

// checkPair compares what is told of two numbers with the document: what is told
// is also the sum over all that is behind the one that tells it.
func checkPair(t *testing.T, list []impl.Factor, from int, to int) {
	t.Helper()
	got, ok := impl.MessageOf(list, from, to)
	if !slices.Contains(nextWanted(list, from), to) {
		if ok || len(got) != 0 {
			t.Fatalf("MessageOf %v, %d, %d = %v, %v", list, from, to, got, ok)
		}
		return
	}
	if want := messageWanted(list, from, to); !ok || !slices.Equal(got, want) {
		t.Fatalf("MessageOf %v, %d, %d = %v, %v; want %v", list, from, to, got, ok, want)
	}
	side := reachFor(list, from, to) | bit(to)
	if want := sumsFor(withoutAlone(list, to), side, to); !slices.Equal(got, want) {
		t.Fatalf("MessageOf %v, %d, %d = %v; what is behind it sums up to %v", list, from, to, got, want)
	}
}

// checkVar compares what is told of one variable with the document.
func checkVar(t *testing.T, list []impl.Factor, v int) {
	t.Helper()
	if got, want := impl.NextTo(list, v), nextWanted(list, v); !slices.Equal(got, want) {
		t.Fatalf("NextTo %v, %d = %v; want %v", list, v, got, want)
	}
	if got, ok := impl.OwnOf(list, v); !ok || !slices.Equal(got, ownWanted(list, v)) {
		t.Fatalf("OwnOf %v, %d = %v, %v; want %v", list, v, got, ok, ownWanted(list, v))
	}
	got, ok := impl.BeliefOf(list, v)
	if want := knownWanted(list, v, -1); !ok || !slices.Equal(got, want) {
		t.Fatalf("BeliefOf %v, %d = %v, %v; want %v", list, v, got, ok, want)
	}
	if want := sumsFor(list, reachFor(list, v, -1), v); !slices.Equal(got, want) {
		t.Fatalf("BeliefOf %v, %d = %v; its tree sums up to %v", list, v, got, want)
	}
}

// checkBeliefs is promise 10: beliefs are the weights of values, but for the sums
// of the trees on which they do not hang.
func checkBeliefs(t *testing.T, list []impl.Factor, weights []int) {
	t.Helper()
	trees, _ := impl.TreesOf(list)
	for v := range 4 {
		got, _ := impl.BeliefOf(list, v)
		for root := range 4 {
			if trees[root] == root && trees[v] != root {
				other, _ := impl.BeliefOf(list, root)
				got = timesList(got, sumOf(other))
			}
		}
		if want, _ := impl.MarginalOf(weights, v); !slices.Equal(got, want) {
			t.Fatalf("BeliefOf %v, %d, times all other trees, is %v; the weights are %v", list, v, got, want)
		}
	}
}

// checkNoForest sees that of what is no forest nothing is told.
func checkNoForest(t *testing.T, list []impl.Factor) {
	t.Helper()
	trees, ok := impl.TreesOf(list)
	if impl.TreeOk(list) || ok || len(trees) != 0 {
		t.Fatalf("%v: TreeOk = %v, TreesOf = %v, %v", list, impl.TreeOk(list), trees, ok)
	}
	for v := -1; v <= 4; v++ {
		checkNoVar(t, list, v)
		for to := -1; to <= 4; to++ {
			checkNoPair(t, list, v, to)
		}
	}
}

func checkNoVar(t *testing.T, list []impl.Factor, v int) {
	t.Helper()
	next := impl.NextTo(list, v)
	own, ok := impl.OwnOf(list, v)
	belief, alsoOk := impl.BeliefOf(list, v)
	if ok || alsoOk || len(next)+len(own)+len(belief) != 0 {
		t.Fatalf("%v, %d: NextTo = %v, OwnOf = %v, %v, BeliefOf = %v, %v", list, v, next, own, ok, belief, alsoOk)
	}
}

func checkNoPair(t *testing.T, list []impl.Factor, from int, to int) {
	t.Helper()
	if got, ok := impl.MessageOf(list, from, to); ok || len(got) != 0 {
		t.Fatalf("MessageOf %v, %d, %d = %v, %v", list, from, to, got, ok)
	}
}

// checkForest compares all that is told of a forest, or of what is none, with the
// document, and reports whether it is one.
func checkForest(t *testing.T, list []impl.Factor) bool {
	t.Helper()
	if !forestWanted(list) {
		checkNoForest(t, list)
		return false
	}
	trees, ok := impl.TreesOf(list)
	if !impl.TreeOk(list) || !ok || !slices.Equal(trees, treesWanted(list)) {
		t.Fatalf("%v: TreeOk = %v, TreesOf = %v, %v; want %v", list, impl.TreeOk(list), trees, ok, treesWanted(list))
	}
	for v := range 4 {
		checkVar(t, list, v)
		for to := range 4 {
			checkPair(t, list, v, to)
		}
	}
	for _, wrong := range wrongIndexes {
		checkNoVar(t, list, wrong)
		checkNoPair(t, list, wrong, wrong)
		for v := range 4 {
			checkNoPair(t, list, wrong, v)
			checkNoPair(t, list, v, wrong)
		}
	}
	weights, _ := impl.ListOfFactors(list)
	checkBeliefs(t, list, weights)
	return true
}

// All sets of pairs, in the order that they have and in the other one, with
// factors of variables alone ahead of them, between them or behind them.
func TestMessagesOfAllPairs(t *testing.T) {
	pairs := []int{3, 5, 9, 6, 10, 12}
	forests := 0
	for chosen := range 64 {
		var sets []int
		for i, pair := range pairs {
			if has(chosen, i) {
				sets = append(sets, pair)
			}
		}
		if checkForest(t, overSets(chosen, sets)) {
			forests++
		}
		slices.Reverse(sets)
		checkForest(t, overSets(chosen+64, sets))
		for v := range 4 {
			at := (v + chosen) % (len(sets) + 1)
			checkForest(t, overSets(chosen, slices.Insert(slices.Clone(sets), at, bit(v))))
			checkForest(t, overSets(chosen, slices.Insert(slices.Clone(sets), at, bit(v), bit(3-v))))
			checkForest(t, overSets(chosen, slices.Insert(slices.Clone(sets), at, bit(v), bit(v))))
		}
		for many := len(sets); many <= 9; many++ {
			checkForest(t, overSets(many, slices.Concat(sets, []int{1, 2, 4, 8, 8, 1, 2, 4, 8}[:many-len(sets)])))
		}
		for i, set := range sets {
			// A pair that is there twice, side by side or with all others between, is a circle.
			checkNoForest(t, overSets(chosen, slices.Insert(slices.Clone(sets), i, set)))
			checkNoForest(t, overSets(chosen, rowWith(sets, set)))
		}
	}
	if forests != 38 {
		t.Errorf("%d forests", forests)
	}
}

// All lists of at most three sets of variables.
func TestMessagesOfAllSets(t *testing.T) {
	checkForest(t, nil)
	checkForest(t, []impl.Factor{})
	forests := 0
	for number := range 16 * 16 * 16 {
		sets := []int{number % 16, number / 16 % 16, number / 256}
		for many := 1; many <= 3; many++ {
			if number>>(4*many) == 0 && checkForest(t, overSets(number, sets[:many])) {
				forests++
			}
		}
	}
	if want := 10 + (100 - 6) + (64 + 3*16*6 + 3*4*30 + 16*6); forests != want {
		t.Errorf("%d forests; want %d", forests, want)
	}
}

// Many lists of factors of one or two variables, with numbers of which many are 0.
func TestMessagesOfMany(t *testing.T) {
	narrow := []int{1, 3, 2, 5, 4, 9, 8, 6, 12, 10}
	forests := 0
	n := uint32(5)
	for i := range 6000 {
		var list []impl.Factor
		for at := range i%8 + 1 {
			n = n*1664525 + 1013904223
			list = append(list, someFactor(i+at*7, narrow[int(n>>16)%10], []int{9, 1, 2, 0}[(i+at)%4]))
		}
		if checkForest(t, list) {
			forests++
		}
	}
	if forests < 1000 {
		t.Errorf("only %d forests", forests)
	}
}

// wantMessage compares what one variable tells another one with what is told by hand.
func wantMessage(t *testing.T, list []impl.Factor, from int, to int, want ...int) {
	t.Helper()
	if got, ok := impl.MessageOf(list, from, to); !ok || !slices.Equal(got, want) {
		t.Errorf("MessageOf %d, %d = %v, %v; want %v", from, to, got, ok, want)
	}
}

func wantBelief(t *testing.T, list []impl.Factor, v int, want ...int) {
	t.Helper()
	if got, ok := impl.BeliefOf(list, v); !ok || !slices.Equal(got, want) {
		t.Errorf("BeliefOf %d = %v, %v; want %v", v, got, ok, want)
	}
}

// wantTrees compares the trees of sets of variables with those told by hand, none for what is no forest.
func wantTrees(t *testing.T, name string, sets []int, want ...int) {
	t.Helper()
	list := overSets(3, sets)
	got, ok := impl.TreesOf(list)
	if len(want) == 0 {
		if ok || len(got) != 0 || impl.TreeOk(list) {
			t.Errorf("%s: TreesOf = %v, %v", name, got, ok)
		}
	} else if !ok || !slices.Equal(got, want) || !impl.TreeOk(list) {
		t.Errorf("%s: TreesOf = %v, %v", name, got, ok)
	}
	checkForest(t, list)
}

func TestTreesByHand(t *testing.T) {
	wantTrees(t, "nothing", nil, 0, 1, 2, 3)
	wantTrees(t, "variables alone", []int{4, 1, 8, 2}, 0, 1, 2, 3)
	wantTrees(t, "one alone, eight times", slices.Repeat([]int{2}, 8), 0, 1, 2, 3)
	wantTrees(t, "one alone, nine times", slices.Repeat([]int{2}, 9))
	wantTrees(t, "one pair", []int{12}, 0, 1, 2, 2)
	wantTrees(t, "two pairs", []int{10, 5}, 0, 1, 0, 1)
	wantTrees(t, "a chain", []int{3, 6, 12}, 0, 0, 0, 0)
	wantTrees(t, "a chain, the one between last", []int{3, 12, 6}, 0, 0, 0, 0)
	wantTrees(t, "a chain of three, and one alone", []int{12, 6, 1}, 0, 1, 1, 1)
	wantTrees(t, "a chain of three from 0 over 3 to 1", []int{10, 9}, 0, 0, 2, 0)
	wantTrees(t, "a star about 3", []int{12, 10, 9}, 0, 0, 0, 0)
	wantTrees(t, "a star about 0", []int{9, 5, 3}, 0, 0, 0, 0)
	wantTrees(t, "a pair twice", []int{6, 6})
	wantTrees(t, "a pair twice, not side by side", []int{6, 1, 9, 6})
	wantTrees(t, "a circle of three", []int{6, 12, 10})
	wantTrees(t, "a circle of three, and one beside it", []int{6, 12, 10, 1})
	wantTrees(t, "a circle of three, and one behind it", []int{1, 9, 6, 12, 10})
	wantTrees(t, "a circle of four", []int{3, 6, 12, 9})
	wantTrees(t, "one without variables", []int{0})
	wantTrees(t, "one without variables behind others", []int{3, 6, 12, 1, 0})
	wantTrees(t, "three together", []int{7})
	wantTrees(t, "three together, one alone ahead", []int{8, 14})
	wantTrees(t, "all together", []int{15})
	wantTrees(t, "the most of a forest", []int{3, 6, 12, 1, 2, 4, 8, 8}, 0, 0, 0, 0)
	wantTrees(t, "one more", []int{3, 6, 12, 1, 2, 4, 8, 8, 8})
}

func TestMessagesByHand(t *testing.T) {
	a := over([]int{0, 2}, 1, 2, 3, 4, 5, 6, 7, 8, 9)
	b := over([]int{1, 2}, 1, 0, 0, 2, 0, 1, 0, 3, 0)
	zero := over([]int{0}, 1, 0, 2)
	two := over([]int{2}, 2, 1, 0)
	twoMore := over([]int{2}, 1, 3, 5)
	three := over([]int{3}, 4, 0, 1)
	list := []impl.Factor{two, a, zero, three, b, twoMore}
	// Of the variable 0, with 1, 0, 2: for the values of 2 these are 1 + 2 times 3, 4 + 2 times 6, 7 + 2 times 9.
	wantMessage(t, list, 0, 2, 7, 16, 25)
	wantMessage(t, list, 1, 2, 1, 3, 3)
	// The variable 2 has 2, 3, 0 of itself, which is 2, 9, 0 with what 1 tells it, and 14, 48, 0 with what 0 does.
	wantMessage(t, list, 2, 0, 1*2+4*9, 2*2+5*9, 3*2+6*9)
	wantMessage(t, list, 2, 1, 14+2*48, 0, 48)
	wantBelief(t, list, 0, 38, 0, 120)
	wantBelief(t, list, 1, 110, 0, 48)
	wantBelief(t, list, 2, 14, 144, 0)
	wantBelief(t, list, 3, 4, 0, 1)
	for _, c := range []struct {
		v    int
		next []int
		own  []int
	}{{0, []int{2}, []int{1, 0, 2}}, {1, []int{2}, []int{1, 1, 1}}, {2, []int{0, 1}, []int{2, 3, 0}}, {3, nil, []int{4, 0, 1}}} {
		own, ok := impl.OwnOf(list, c.v)
		if next := impl.NextTo(list, c.v); !ok || !slices.Equal(own, c.own) || !slices.Equal(next, c.next) {
			t.Errorf("NextTo %d = %v; OwnOf = %v, %v", c.v, next, own, ok)
		}
	}
	for _, pair := range [][2]int{{0, 1}, {1, 0}, {0, 3}, {3, 2}, {2, 2}, {3, 3}, {0, 0}, {2, 4}, {4, 2}, {2, -1}, {-1, 2}} {
		checkNoPair(t, list, pair[0], pair[1])
	}
	checkForest(t, list)
}

// Without factors of two variables BeliefOf is OwnOf, and nobody tells anything.
func TestMessagesOfVariablesAlone(t *testing.T) {
	for i := range 500 {
		var sets []int
		for at := range i % 9 {
			sets = append(sets, bit((i/9+at*at)%4))
		}
		list := overSets(i, sets)
		checkForest(t, list)
		for v := range 4 {
			own, ok := impl.OwnOf(list, v)
			belief, alsoOk := impl.BeliefOf(list, v)
			if next := impl.NextTo(list, v); !ok || !alsoOk || !slices.Equal(own, belief) || len(next) != 0 {
				t.Fatalf("%v, %d: OwnOf = %v, BeliefOf = %v, NextTo = %v", list, v, own, belief, next)
			}
			for to := range 4 {
				checkNoPair(t, list, v, to)
			}
		}
	}
	wantBelief(t, nil, 2, 1, 1, 1)
	wantBelief(t, slices.Repeat([]impl.Factor{over([]int{2}, 9, 0, 1)}, 8), 2, 43046721, 0, 1)
	wantBelief(t, slices.Repeat([]impl.Factor{over([]int{2}, 9, 0, 1)}, 8), 1, 1, 1, 1)
}

// The greatest numbers: messages and beliefs may be greater than those of a list.
func TestGreatestMessages(t *testing.T) {
	nines := func(sets ...int) []impl.Factor {
		var list []impl.Factor
		for _, vars := range sets {
			list = append(list, filled(vars, func([4]int) int { return 9 }))
		}
		return list
	}
	const most = 43046721 * 27
	for _, sets := range [][]int{{9, 5, 3, 1, 1, 1, 1, 1}, {3, 6, 12, 1, 2, 4, 8, 8}, {12, 10, 9, 1, 1, 2, 2, 8}} {
		list := nines(sets...)
		for v := range 4 {
			wantBelief(t, list, v, most, most, most)
		}
		checkForest(t, list)
	}
	chain := nines(3, 6, 12, 8, 8, 8, 8, 8)
	wantMessage(t, chain, 3, 2, 3*531441, 3*531441, 3*531441)
	wantMessage(t, chain, 1, 0, most, most, most)
	wantMessage(t, chain, 0, 1, 27, 27, 27)
	noughts := append(nines(3, 6, 12), over([]int{1}, 0, 0, 0))
	for v := range 4 {
		wantBelief(t, noughts, v, 0, 0, 0)
	}
	checkForest(t, noughts)
}

// What is wrong with a list, wherever it stands, makes it no forest: also what has
// no variables, or more than two.
func TestMessagesOfNoForests(t *testing.T) {
	wrong := append(wrongFactors(), over(nil, 1), over(nil, 0), over(nil, 9), someFactor(1, 7, 9), someFactor(2, 14, 9), someFactor(3, 15, 1))
	for _, f := range wrong {
		checkNoForest(t, []impl.Factor{f})
		for at := range 8 {
			checkNoForest(t, slices.Insert(overSets(at, []int{1, 3, 2, 6, 8, 12, 8}[:max(at, 3)]), at, f))
		}
	}
	for many := 9; many < 20; many++ {
		for _, f := range []impl.Factor{over([]int{1}, 0, 1, 0), over([]int{1}, 1, 1, 1), {}} {
			checkNoForest(t, slices.Repeat([]impl.Factor{f}, many))
		}
	}
}

// The factors of a single program, if they are a forest, tell the weights of its values.
func TestMessagesOfSingles(t *testing.T) {
	some := singleStmts()
	forests, others := 0, 0
	for i := range 6000 {
		p := []impl.Stmt{some[i%32], some[i/32%32], some[i/5%32], some[i/7%32]}[:i%5]
		list, ok := impl.FactorsOf(p)
		if !ok {
			continue
		}
		if !checkForest(t, list) {
			others++
			continue
		}
		forests++
		checkBeliefs(t, list, impl.WeightsOf(p))
	}
	if forests < 1000 || others < 100 {
		t.Errorf("only %d forests, and %d others", forests, others)
	}
}

// What is left behind the elimination of all others is the belief, for what no
// pair leads to counts with its sum in both.
func TestMessagesAreElimination(t *testing.T) {
	for i, sets := range [][]int{{3, 6, 12}, {9, 10, 12, 1, 1}, {3, 9, 5, 8}, {5, 12, 10, 2, 4}, {10, 9, 6, 1, 2, 4, 8, 8}} {
		for number := range 20 {
			list := overSets(i*20+number, sets)
			best, _ := impl.BestOrder(list)
			for v := range 4 {
				order := slices.DeleteFunc(slices.Clone(best), func(other int) bool { return other == v })
				left, _ := impl.Eliminate(list, order)
				wantBelief(t, list, v, left.Nums...)
			}
		}
	}
}

// What is returned is new memory, and what is given stays as it is, also behind its length.
func TestMessagesShareNothing(t *testing.T) {
	for i, sets := range [][]int{nil, {4}, {3, 1, 6, 12}, {9, 10, 12, 8, 8}, {3, 12, 2}, {5, 5}, {7, 1}} {
		list := make([]impl.Factor, 0, 12)
		var wholes, before []impl.Factor
		for _, f := range overSets(i, sets) {
			f, whole := roomy(f)
			list = append(list, f)
			wholes = append(wholes, whole)
			before = append(before, over(slices.Clone(whole.Vars), slices.Clone(whole.Nums)...))
		}
		if i == 1 {
			// The same memory twice in what is given is not the same in what is returned.
			list = append(list, list[0])
		}
		for range 2 {
			checkForest(t, list)
			spoilMessages(list)
		}
		checkForest(t, list)
		if !slices.EqualFunc(wholes, before, sameFactor) {
			t.Fatal("what was given is changed")
		}
		for _, f := range list[len(list):cap(list)] {
			if len(f.Vars)+len(f.Nums) != 0 {
				t.Fatal("what is behind the list that was given is changed")
			}
		}
	}
}

// spoilMessages writes over all that is told of factors.
func spoilMessages(list []impl.Factor) {
	trees, _ := impl.TreesOf(list)
	spoil(trees)
	for v := range 4 {
		spoil(impl.NextTo(list, v))
		own, _ := impl.OwnOf(list, v)
		spoil(own)
		belief, _ := impl.BeliefOf(list, v)
		spoil(belief)
		for to := range 4 {
			message, _ := impl.MessageOf(list, v, to)
			spoil(message)
		}
	}
}
