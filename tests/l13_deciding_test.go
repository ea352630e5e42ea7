package tests

import (
	"math"
	"slices"
	"testing"

	"loop.example/wholechance/impl"
)

// rowsOfMany returns all rows of so many values, ascending by the first one that differs.
func rowsOfMany(many int) [][]int {
	return slices.DeleteFunc(rowsUpTo(many), func(row []int) bool { return len(row) != many })
}

// seenWanted is how many values an act has one value each for.
func seenWanted(act impl.Act) int {
	if act.Sees < 0 {
		return 1
	}
	return 3
}

// figuresOf is how many values a policy for acts has in all.
func figuresOf(acts []impl.Act) int {
	many := 0
	for _, act := range acts {
		many += seenWanted(act)
	}
	return many
}

// policiesFor returns all policies for acts, ascending by the first value that differs.
func policiesFor(acts []impl.Act) [][][]int {
	all := [][][]int{nil}
	for _, act := range acts {
		var more [][][]int
		for _, policy := range all {
			for _, row := range rowsOfMany(seenWanted(act)) {
				more = append(more, slices.Concat(policy, [][]int{row}))
			}
		}
		all = more
	}
	return all
}

// doneWanted is what values are worth where statements are done one by one, each
// act by its policy, and all draws by each value.
func doneWanted(p []impl.Stmt, at int, values [4]int, acts []impl.Act, policy [][]int, f []int) int {
	if at == len(p) {
		return f[values[0]+3*values[1]+9*values[2]+27*values[3]]
	}
	for i, act := range acts {
		if act.At != at {
			continue
		}
		seen := 0
		if act.Sees >= 0 {
			seen = values[act.Sees]
		}
		value := policy[i][seen]
		values[p[at].A] = value
		return p[at].W[value] * doneWanted(p, at+1, values, acts, policy, f)
	}
	worth := 0
	for _, e := range endings(p[at:at+1], values, ending{weight: 1}) {
		if e.weight != 0 {
			worth += e.weight * doneWanted(p, at+1, valuesIn(e.state), acts, policy, f)
		}
	}
	return worth
}

// betterWanted is the index of the first policy that is worth more than that with
// an index, with one of so many values changed; -1 if there is none.
func betterWanted(worths []int, index int, figures int) int {
	place := 1
	for range figures - 1 {
		place *= 3
	}
	for ; place > 0; place /= 3 {
		old := index / place % 3
		for value := range 3 {
			other := index + (value-old)*place
			if figures > 0 && worths[other] > worths[index] {
				return other
			}
		}
	}
	return -1
}

func climbWanted(worths []int, index int, figures int) int {
	for next := index; next >= 0; next = betterWanted(worths, next, figures) {
		index = next
	}
	return index
}

func sameRows(a [][]int, b [][]int) bool { return slices.EqualFunc(a, b, slices.Equal) }

// checkDeciding compares all that chapter 13 tells of acts with the runs of all
// policies; of very many policies some are gone on from.
func checkDeciding(t *testing.T, p []impl.Stmt, acts []impl.Act, f []int) {
	t.Helper()
	policies := policiesFor(acts)
	worths := make([]int, len(policies))
	for i, policy := range policies {
		worths[i] = doneWanted(p, 0, [4]int{}, acts, policy, f)
	}
	checkBest(t, p, acts, f, policies, worths)
	for i := range policies {
		if i%(len(policies)/30+1) == 0 {
			checkPolicy(t, p, acts, f, policies, worths, i)
		}
	}
}

// checkBest compares the best policy with all policies.
func checkBest(t *testing.T, p []impl.Stmt, acts []impl.Act, f []int, policies [][][]int, worths []int) {
	t.Helper()
	most := slices.Max(worths)
	want := policies[slices.Index(worths, most)]
	if got, worth, ok := impl.BestPolicy(p, acts, f); !ok || worth != most || !sameRows(got, want) {
		t.Fatalf("BestPolicy %v, %v, %v = %v, %d, %v; want %v, %d", p, acts, f, got, worth, ok, want, most)
	}
}

func checkPolicy(t *testing.T, p []impl.Stmt, acts []impl.Act, f []int, policies [][][]int, worths []int, index int) {
	t.Helper()
	policy, figures := policies[index], figuresOf(acts)
	if got, ok := impl.WorthBy(p, acts, policy, f); !ok || got != worths[index] {
		t.Fatalf("WorthBy %v, %v, %v, %v = %d, %v; want %d", p, acts, policy, f, got, ok, worths[index])
	}
	better := betterWanted(worths, index, figures)
	var want [][]int
	if better >= 0 {
		want = policies[better]
	}
	if got, ok := impl.BetterBy(p, acts, policy, f); ok != (better >= 0) || !sameRows(got, want) {
		t.Fatalf("BetterBy %v, %v, %v, %v = %v, %v; want %v", p, acts, policy, f, got, ok, want)
	}
	want = policies[climbWanted(worths, index, figures)]
	if got, ok := impl.Climb(p, acts, policy, f); !ok || !sameRows(got, want) {
		t.Fatalf("Climb %v, %v, %v, %v = %v, %v; want %v", p, acts, policy, f, got, ok, want)
	}
}

// actsWanted is the document's sentence of acts.
func actsWanted(p []impl.Stmt, acts []impl.Act) bool {
	if !plainWanted(p) || len(acts) > 2 || len(acts) == 2 && acts[0].At >= acts[1].At {
		return false
	}
	for _, act := range acts {
		if act.At < 0 || act.At >= len(p) || p[act.At].Kind != 2 || act.Sees < -1 || act.Sees > 3 {
			return false
		}
	}
	return true
}

// actsIn returns all acts of a plain program, none at first.
func actsIn(p []impl.Stmt) [][]impl.Act {
	var one []impl.Act
	for at := range p {
		for sees := -1; sees <= 3; sees++ {
			one = append(one, impl.Act{At: at, Sees: sees})
		}
	}
	all := [][]impl.Act{nil}
	for i, act := range one {
		all = append(all, []impl.Act{act})
		for _, next := range one[i:] {
			all = append(all, []impl.Act{act, next})
		}
	}
	return slices.DeleteFunc(all, func(acts []impl.Act) bool { return !actsWanted(p, acts) })
}

// Promise 13, for all programs of up to three statements out of some.
func TestDecidingOfAll(t *testing.T) {
	for i, p := range smallPrograms() {
		if !plainWanted(p) {
			checkNotDecided(t, p, nil, nil, fullNumbers(i))
			continue
		}
		all := actsIn(p)
		for j, acts := range all {
			if figuresOf(acts) <= 4 || (i+j)%9 == 0 {
				checkDeciding(t, p, acts, fullNumbers(i+j))
			}
		}
	}
}

// Promise 13, for some programs of more statements.
func TestDecidingOfMore(t *testing.T) {
	single, pairs := 0, 0
	for i := range 1500 {
		p := widePlain(i, 3+i%8)
		if !plainWanted(p) || impl.CountDraws(p) > 4 {
			continue
		}
		// Some acts alone, and as many together, where there are draws for them.
		all := actsIn(p)
		if i%2 == 0 {
			some := slices.DeleteFunc(slices.Clone(all), func(acts []impl.Act) bool { return len(acts) < 2 })
			all = append(some, all[0])
		}
		acts := all[i*7919%len(all)]
		f := fullNumbers(i)
		if i%3 == 0 {
			f = someNumbers(i)
		}
		if len(acts) == 2 {
			pairs++
		} else {
			single += len(acts)
		}
		checkDeciding(t, p, acts, f)
	}
	if single < 200 || pairs < 150 {
		t.Errorf("only %d acts alone, and %d together", single, pairs)
	}
}

// deepPlain returns plain programs of ten statements of which most draw or weigh.
func deepPlain(number int) []impl.Stmt {
	draw := func(v int, w ...int) impl.Stmt { return impl.Stmt{Kind: impl.StDraw, A: v, W: [3]int(w)} }
	p := []impl.Stmt{
		draw(0, 1, 2, 3), draw(1, 2, 1, 1), {Kind: impl.StDrawBy, A: 2, B: 0, W: [3]int{1, 0, 4}}, draw(3, 5, 1, 2),
		{Kind: impl.StWeighBy, A: 3, B: 1, W: [3]int{0, 1, 5}}, {Kind: impl.StAdd, A: 0, B: 2}, draw(2, 0, 3, 1),
		{Kind: impl.StWeighBy, A: 2, B: 0, W: [3]int{2, 7, 1}}, draw(1, 1, 1, 2), {Kind: impl.StWeighBy, A: 1, B: 3, W: [3]int{1, 3, 2}},
	}
	for i := range p {
		p[i] = turned(p[i], number%4)
	}
	return join(p[number%5:], p[:number%5])
}

// Promise 13: no policy is worth more than the best one, and the best one is a policy.
func TestNoPolicyIsWorthMore(t *testing.T) {
	for i := range 40 {
		p := deepPlain(i)
		all := actsIn(p)
		acts, f := all[i*31%len(all)], fullNumbers(i)
		best, most, ok := impl.BestPolicy(p, acts, f)
		if worth, isOne := impl.WorthBy(p, acts, best, f); !ok || !isOne || worth != most || !impl.PolicyOk(acts, best) {
			t.Fatalf("BestPolicy %v, %v, %v = %v, %d, %v; it is worth %d, %v", p, acts, f, best, most, ok, worth, isOne)
		}
		if better, ok := impl.BetterBy(p, acts, best, f); ok || len(better) != 0 {
			t.Fatalf("BetterBy %v, %v, %v = %v, %v; it is the best one", p, acts, best, better, ok)
		}
		if top, ok := impl.Climb(p, acts, best, f); !ok || !sameRows(top, best) {
			t.Fatalf("Climb %v, %v, %v = %v, %v; it is the best one", p, acts, best, top, ok)
		}
		found := false
		for _, policy := range policiesFor(acts) {
			worth, ok := impl.WorthBy(p, acts, policy, f)
			found = found || sameRows(policy, best)
			if !ok || worth > most || worth == most && !found {
				t.Fatalf("WorthBy %v, %v, %v, %v = %d, %v; BestPolicy is %v, %d", p, acts, policy, f, worth, ok, best, most)
			}
		}
		if !found {
			t.Fatalf("BestPolicy %v, %v, %v = %v", p, acts, f, best)
		}
	}
}

// Where one act alone is chosen, each climb leads to what is worth most.
func TestClimbsOfOneAct(t *testing.T) {
	for i := range 40 {
		p, f := deepPlain(i), fullNumbers(i)
		for j, acts := range actsIn(p) {
			if len(acts) != 1 || (i+j)%4 != 0 {
				continue
			}
			_, most, _ := impl.BestPolicy(p, acts, f)
			for _, policy := range policiesFor(acts) {
				top, ok := impl.Climb(p, acts, policy, f)
				if worth, isOne := impl.WorthBy(p, acts, top, f); !ok || !isOne || worth != most {
					t.Fatalf("Climb %v, %v, %v, %v = %v, %v; it is worth %d, the best one %d", p, acts, policy, f, top, ok, worth, most)
				}
			}
		}
	}
}

// Each step of a climb is worth more, and behind the last one is none.
func TestClimbsAreSteps(t *testing.T) {
	steps := 0
	for i := range 60 {
		p, f := deepPlain(i), fullNumbers(i)
		all := actsIn(p)
		acts := all[i*131%len(all)]
		policies := policiesFor(acts)
		now := policies[i*77%len(policies)]
		top, ok := impl.Climb(p, acts, now, f)
		for {
			better, more := impl.BetterBy(p, acts, now, f)
			if !more {
				break
			}
			worth, _ := impl.WorthBy(p, acts, now, f)
			if next, _ := impl.WorthBy(p, acts, better, f); next <= worth || changedFigures(now, better) != 1 {
				t.Fatalf("BetterBy %v, %v, %v = %v; they are worth %d and %d", p, acts, now, better, worth, next)
			}
			now = better
			steps++
		}
		if !ok || !sameRows(top, now) {
			t.Fatalf("Climb %v, %v, %v = %v, %v; want %v", p, acts, f, top, ok, now)
		}
	}
	if steps < 60 {
		t.Errorf("only %d steps", steps)
	}
}

// changedFigures counts the values in which two policies for the same acts differ.
func changedFigures(a [][]int, b [][]int) int {
	many := 0
	for i, row := range a {
		for seen := range row {
			if b[i][seen] != row[seen] {
				many++
			}
		}
	}
	return many
}

// What is drawn is all that can be chosen, together: each value of each act is
// chosen by as many policies.
func TestPoliciesAreDrawsTogether(t *testing.T) {
	for i := range 20 {
		p, f := deepPlain(i), fullNumbers(i)
		worth, _ := impl.WorthOf(p, f)
		for j, acts := range actsIn(p) {
			// The choices of two acts that see are no longer one by one.
			if figuresOf(acts) > 4 || (i+j)%7 != 0 {
				continue
			}
			sum, policies := 0, policiesFor(acts)
			for _, policy := range policies {
				one, _ := impl.WorthBy(p, acts, policy, f)
				sum += one
			}
			often := len(policies)
			for range acts {
				often /= 3
			}
			if sum != worth*often {
				t.Fatalf("the policies of %v for %v are together worth %d; want %d, %d times", p, acts, sum, worth, often)
			}
		}
	}
}

// An act that sees nothing is a draw of which the other weights are 0.
func TestActsThatSeeNothing(t *testing.T) {
	for i := range 300 {
		p, f := widePlain(i, 1+i%9), fullNumbers(i)
		for _, acts := range actsIn(p) {
			if figuresOf(acts) != len(acts) {
				continue
			}
			for _, policy := range policiesFor(acts) {
				checkSeesNothing(t, p, acts, policy, f)
			}
		}
	}
}

func checkSeesNothing(t *testing.T, p []impl.Stmt, acts []impl.Act, policy [][]int, f []int) {
	t.Helper()
	q, by := slices.Clone(p), 1
	for i, act := range acts {
		value := policy[i][0]
		by *= p[act.At].W[value]
		q[act.At].W = oneOf(value)
	}
	want, _ := impl.WorthOf(q, f)
	if got, ok := impl.WorthBy(p, acts, policy, f); !ok || got != by*want {
		t.Fatalf("WorthBy %v, %v, %v, %v = %d, %v; want %d times %d", p, acts, policy, f, got, ok, by, want)
	}
}

// Without acts there is one policy, of no values.
func TestDecidingWithoutActs(t *testing.T) {
	for i := range 500 {
		p, f := widePlain(i, i%11), fullNumbers(i)
		want, _ := impl.WorthOf(p, f)
		for _, acts := range [][]impl.Act{nil, {}} {
			for _, policy := range [][][]int{nil, {}} {
				if got, ok := impl.WorthBy(p, acts, policy, f); !ok || got != want {
					t.Fatalf("WorthBy %v without acts = %d, %v; want %d", p, got, ok, want)
				}
				if better, ok := impl.BetterBy(p, acts, policy, f); ok || len(better) != 0 {
					t.Fatalf("BetterBy %v without acts = %v, %v", p, better, ok)
				}
				if top, ok := impl.Climb(p, acts, policy, f); !ok || len(top) != 0 {
					t.Fatalf("Climb %v without acts = %v, %v", p, top, ok)
				}
			}
			if best, most, ok := impl.BestPolicy(p, acts, f); !ok || most != want || len(best) != 0 {
				t.Fatalf("BestPolicy %v without acts = %v, %d, %v; want %d", p, best, most, ok, want)
			}
		}
	}
	if !impl.ActsOk(nil, nil) || !impl.PolicyOk(nil, nil) || !impl.ActsOk([]impl.Stmt{draw1}, []impl.Act{}) || !impl.PolicyOk([]impl.Act{}, [][]int{}) {
		t.Error("no acts are acts, and no values a policy for them")
	}
}

// wantBest compares the best policy with what is told, and all others with their runs.
func wantBest(t *testing.T, name string, p []impl.Stmt, acts []impl.Act, f []int, most int, policy ...[]int) {
	t.Helper()
	if got, worth, ok := impl.BestPolicy(p, acts, f); !ok || worth != most || !sameRows(got, policy) {
		t.Errorf("%s: BestPolicy = %v, %d, %v", name, got, worth, ok)
	}
	checkDeciding(t, p, acts, f)
}

func sees(at int, v int) impl.Act { return impl.Act{At: at, Sees: v} }

// evenDraw draws each value with the same weight.
func evenDraw(v int, weight int) impl.Stmt {
	return impl.Stmt{Kind: impl.StDraw, A: v, W: [3]int{weight, weight, weight}}
}

func ones() []int { return slices.Repeat([]int{1}, 81) }

func TestDecidingByHand(t *testing.T) {
	by01 := impl.Stmt{Kind: impl.StWeighBy, A: 0, B: 1, W: [3]int{0, 1, 5}}
	p := []impl.Stmt{evenDraw(1, 1), evenDraw(0, 1), by01}
	wantBest(t, "what is drawn is seen", p, []impl.Act{sees(1, 1)}, ones(), 15, []int{2, 1, 0})
	wantBest(t, "nothing is seen", p, []impl.Act{sees(1, -1)}, ones(), 6, []int{0})
	wantBest(t, "its own variable is seen, 0 still", p, []impl.Act{sees(1, 0)}, ones(), 6, []int{0, 0, 0})
	wantBest(t, "another one is seen, 0 always", p, []impl.Act{sees(1, 3)}, ones(), 6, []int{0, 0, 0})
	wantBest(t, "what is drawn behind is not seen", p, []impl.Act{sees(0, 0)}, ones(), 6, []int{0, 0, 0})
	wantBest(t, "both", p, []impl.Act{sees(0, -1), sees(1, -1)}, ones(), 5, []int{0}, []int{2})
	wantBest(t, "both, the second sees the first", p, []impl.Act{sees(0, -1), sees(1, 1)}, ones(), 5, []int{0}, []int{2, 0, 0})
	wantBest(t, "both see", p, []impl.Act{sees(0, 3), sees(1, 1)}, ones(), 5, []int{0, 0, 0}, []int{2, 0, 0})
	// What is set ahead of the act is seen as it is then.
	set1 := impl.Stmt{Kind: impl.StSet, A: 1, B: -1, C: 1}
	wantBest(t, "set, and seen", []impl.Stmt{set1, evenDraw(0, 1), by01}, []impl.Act{sees(1, 1)}, ones(), 5, []int{0, 1, 0})
	wantBest(t, "seen, and set", []impl.Stmt{evenDraw(0, 1), set1, by01}, []impl.Act{sees(0, 1)}, ones(), 5, []int{1, 0, 0})
	wantBest(t, "seen, and then changed", []impl.Stmt{evenDraw(1, 1), evenDraw(0, 1), {Kind: impl.StSet, A: 1, B: 1, C: 1}, by01},
		[]impl.Act{sees(1, 1)}, ones(), 15, []int{1, 0, 2})
	// Its own variable, drawn ahead of it, is seen as it is then.
	own := []impl.Stmt{evenDraw(0, 1), {Kind: impl.StSet, A: 1, B: 0, C: 0}, evenDraw(0, 1), by01}
	wantBest(t, "its own variable is seen", own, []impl.Act{sees(2, 0)}, ones(), 15, []int{2, 1, 0})
	// Weights ahead of an act count for what is chosen there.
	odds := []impl.Stmt{{Kind: impl.StDraw, A: 1, W: [3]int{1, 2, 6}}, evenDraw(0, 1), by01}
	wantBest(t, "odds, seen", odds, []impl.Act{sees(1, 1)}, ones(), 45, []int{2, 1, 0})
	wantBest(t, "odds, not seen", odds, []impl.Act{sees(1, -1)}, ones(), 32, []int{0})
	// Values in the end count, too.
	wantBest(t, "values", []impl.Stmt{evenDraw(0, 1)}, []impl.Act{sees(0, -1)}, listOf(stateWeight{0, 4}, stateWeight{1, 7}, stateWeight{2, 6}), 7, []int{1})
	wantBest(t, "the last value", []impl.Stmt{evenDraw(0, 1)}, []impl.Act{sees(0, -1)}, listOf(stateWeight{0, 4}, stateWeight{1, 7}, stateWeight{2, 8}), 8, []int{2})
}

// What is chosen has its own weight, and no other one; with one of 0 it is worth nothing.
func TestWeightsOfWhatIsChosen(t *testing.T) {
	draw0 := impl.Stmt{Kind: impl.StDraw, A: 0, W: [3]int{1, 2, 0}}
	great := listOf(stateWeight{0, 3}, stateWeight{1, 2}, stateWeight{2, 9})
	alone := []impl.Act{sees(0, -1)}
	for value, want := range []int{3, 4, 0} {
		if got, ok := impl.WorthBy([]impl.Stmt{draw0}, alone, [][]int{{value}}, great); !ok || got != want {
			t.Errorf("WorthBy %d = %d, %v", value, got, ok)
		}
	}
	wantBest(t, "a weight of 0", []impl.Stmt{draw0}, alone, great, 4, []int{1})
	wantBest(t, "a weight of 0, worth all", []impl.Stmt{draw0}, alone, listOf(stateWeight{2, 9}), 0, []int{0})
	// Only one value has a weight, and all others have none.
	last := impl.Stmt{Kind: impl.StDraw, A: 0, W: [3]int{0, 0, 4}}
	wantBest(t, "one weight alone", []impl.Stmt{last}, alone, ones(), 4, []int{2})
	wantBest(t, "one weight alone, seeing", []impl.Stmt{evenDraw(1, 2), last}, []impl.Act{sees(1, 1)}, ones(), 24, []int{2, 2, 2})
	wantBest(t, "never at all", []impl.Stmt{last, {Kind: impl.StWeigh, A: 0, W: [3]int{1, 1, 0}}}, alone, ones(), 0, []int{0})
	wantBest(t, "never, ahead", []impl.Stmt{{Kind: impl.StWeigh, A: 0, W: [3]int{0, 1, 1}}, last}, []impl.Act{sees(1, 0)}, ones(), 0, []int{0, 0, 0})
	wantBest(t, "worth nothing", []impl.Stmt{draw0, draw1}, []impl.Act{sees(0, 2), sees(1, -1)}, make([]int, 81), 0, []int{0, 0, 0}, []int{0})
	// What is never seen is decided by the first value, whatever is worth most elsewhere.
	wantBest(t, "what is drawn without weight is not seen", []impl.Stmt{{Kind: impl.StDraw, A: 1, W: [3]int{1, 0, 3}}, last}, []impl.Act{sees(1, 1)}, ones(), 16, []int{2, 0, 2})
	wantBest(t, "what is chosen without weight is not seen", []impl.Stmt{{Kind: impl.StDraw, A: 1, W: [3]int{0, 5, 5}}, last}, []impl.Act{sees(0, -1), sees(1, 1)},
		ones(), 20, []int{1}, []int{0, 2, 0})
	// A policy of what has no weight is one, and worth nothing; BetterBy leaves it at once.
	if worth, ok := impl.WorthBy([]impl.Stmt{last}, alone, [][]int{{1}}, ones()); !ok || worth != 0 {
		t.Errorf("WorthBy a weight of 0 = %d, %v", worth, ok)
	}
	if better, ok := impl.BetterBy([]impl.Stmt{last}, alone, [][]int{{1}}, ones()); !ok || !sameRows(better, [][]int{{2}}) {
		t.Errorf("BetterBy a weight of 0 = %v, %v", better, ok)
	}
}

// wantSteps compares the policies that lead from one to where there is none better.
func wantSteps(t *testing.T, name string, p []impl.Stmt, acts []impl.Act, f []int, steps ...[][]int) {
	t.Helper()
	for i, policy := range steps {
		better, ok := impl.BetterBy(p, acts, policy, f)
		if last := i+1 == len(steps); ok == last || ok && !sameRows(better, steps[i+1]) || !ok && len(better) != 0 {
			t.Errorf("%s: BetterBy %v = %v, %v", name, policy, better, ok)
		}
		if top, ok := impl.Climb(p, acts, policy, f); !ok || !sameRows(top, steps[len(steps)-1]) {
			t.Errorf("%s: Climb %v = %v, %v", name, policy, top, ok)
		}
	}
	checkDeciding(t, p, acts, f)
}

func TestClimbsByHand(t *testing.T) {
	one, alone := []impl.Stmt{evenDraw(0, 1)}, []impl.Act{sees(0, -1)}
	rising := listOf(stateWeight{0, 1}, stateWeight{1, 2}, stateWeight{2, 9})
	wantSteps(t, "the least value first", one, alone, rising, [][]int{{0}}, [][]int{{1}}, [][]int{{2}})
	falling := listOf(stateWeight{0, 9}, stateWeight{1, 2}, stateWeight{2, 1})
	wantSteps(t, "the least value, at once", one, alone, falling, [][]int{{2}}, [][]int{{0}})
	wantSteps(t, "as much is not more", one, alone, listOf(stateWeight{0, 5}, stateWeight{1, 5}, stateWeight{2, 4}), [][]int{{1}})
	wantSteps(t, "as much is not more, either", one, alone, ones(), [][]int{{2}})
	// Two acts that see nothing meet only if both change at once: a climb stays where it is.
	two, both := []impl.Stmt{evenDraw(0, 1), evenDraw(1, 1)}, []impl.Act{sees(0, -1), sees(1, -1)}
	meet := listOf(stateWeight{0, 1}, stateWeight{4, 5}, stateWeight{8, 3})
	wantBest(t, "where both meet", two, both, meet, 5, []int{1}, []int{1})
	wantSteps(t, "the least meeting", two, both, meet, [][]int{{0}, {0}})
	wantSteps(t, "another meeting", two, both, meet, [][]int{{2}, {2}})
	wantSteps(t, "the first act first", two, both, meet, [][]int{{0}, {1}}, [][]int{{1}, {1}})
	wantSteps(t, "the first act first, again", two, both, meet, [][]int{{1}, {0}}, [][]int{{0}, {0}})
	// A second act that sees the first one goes where that is.
	seeing := []impl.Act{sees(0, -1), sees(1, 0)}
	wantBest(t, "the second one sees", two, seeing, meet, 5, []int{1}, []int{0, 1, 0})
	wantSteps(t, "the second one sees", two, seeing, meet, [][]int{{0}, {2, 2, 2}}, [][]int{{2}, {2, 2, 2}})
	wantSteps(t, "both in order", two, seeing, meet, [][]int{{0}, {0, 0, 0}})
	wantSteps(t, "one value of a row", two, []impl.Act{sees(1, 0)}, meet,
		[][]int{{1, 0, 0}}, [][]int{{0, 0, 0}}, [][]int{{0, 1, 0}}, [][]int{{0, 1, 2}})
}

func TestActsOfPrograms(t *testing.T) {
	p := []impl.Stmt{draw1, set0, {Kind: impl.StDraw, A: 2, W: someW}, drawBy, weigh3, {Kind: impl.StDraw, A: 1, W: [3]int{0, 0, 9}}}
	var one []impl.Act
	for _, at := range append(wrongIndexes, 0, 1, 2, 3, 6) {
		for _, v := range []int{math.MinInt, -2, -1, 0, 1, 2, 3, 4, math.MaxInt} {
			one = append(one, sees(at, v))
		}
	}
	for _, first := range one {
		checkActs(t, p, []impl.Act{first})
		for _, second := range one {
			checkActs(t, p, []impl.Act{first, second})
		}
	}
	for _, acts := range [][]impl.Act{{sees(0, -1)}, {sees(2, 3)}, {sees(0, 0), sees(2, -1)}, {sees(2, 2), sees(5, 2)}, {sees(0, 1), sees(5, 1)}} {
		if !impl.ActsOk(p, acts) {
			t.Errorf("%v are acts", acts)
		}
	}
	for name, acts := range map[string][]impl.Act{
		"no draw":              {sees(1, -1)},
		"a draw by another":    {sees(3, -1)},
		"a weighing":           {sees(4, 0)},
		"past the end":         {sees(6, 0)},
		"ahead of all":         {sees(-1, 0)},
		"no variable":          {sees(0, 4)},
		"less than nothing":    {sees(0, -2)},
		"out of order":         {sees(2, -1), sees(0, -1)},
		"the same twice":       {sees(2, -1), sees(2, -1)},
		"the same, sees other": {sees(0, 1), sees(0, 2)},
		"three":                {sees(0, -1), sees(2, -1), sees(5, -1)},
		"the second is none":   {sees(0, -1), sees(4, -1)},
		"the second sees none": {sees(0, -1), sees(2, 4)},
		"very many":            slices.Repeat([]impl.Act{sees(0, -1)}, 1000),
	} {
		if impl.ActsOk(p, acts) {
			t.Errorf("%s: %v are acts", name, acts)
		}
		// A policy of as many values as are seen does not make acts of them.
		policy := make([][]int, len(acts))
		for i, act := range acts {
			policy[i] = make([]int, seenWanted(act))
		}
		checkNotDecided(t, p, acts, policy, ones())
	}
}

func checkActs(t *testing.T, p []impl.Stmt, acts []impl.Act) {
	t.Helper()
	if got := impl.ActsOk(p, acts); got != actsWanted(p, acts) {
		t.Fatalf("ActsOk %v, %v = %v", p, acts, got)
	}
}

// Draws that a program does not draw alone, or not always, are no acts.
func TestActsOfWhatIsNotPlain(t *testing.T) {
	others := [][]impl.Stmt{{skip1, draw1}, {draw1, skip1}, {loop(1, 1), draw1}, {draw1, loop(1, 0), draw1}, {draw1, loop(1, 2), set0}}
	for _, p := range slices.Concat(noPrograms, others) {
		checkActs(t, p, nil)
		checkNotDecided(t, p, nil, nil, ones())
		for at := -1; at <= len(p); at++ {
			checkActs(t, p, []impl.Act{sees(at, -1)})
			checkNotDecided(t, p, []impl.Act{sees(at, -1)}, [][]int{{0}}, ones())
			checkNotDecided(t, p, []impl.Act{sees(at, 1)}, [][]int{{0, 0, 0}}, ones())
		}
	}
}

// checkNoPolicyIn sees that nothing is told of acts and a policy, which may be one for others.
func checkNoPolicyIn(t *testing.T, p []impl.Stmt, acts []impl.Act, policy [][]int, f []int) {
	t.Helper()
	if got, ok := impl.WorthBy(p, acts, policy, f); ok || got != 0 {
		t.Fatalf("WorthBy %v, %v, %v = %d, %v", p, acts, policy, got, ok)
	}
	if got, ok := impl.BetterBy(p, acts, policy, f); ok || len(got) != 0 {
		t.Fatalf("BetterBy %v, %v, %v = %v, %v", p, acts, policy, got, ok)
	}
	if got, ok := impl.Climb(p, acts, policy, f); ok || len(got) != 0 {
		t.Fatalf("Climb %v, %v, %v = %v, %v", p, acts, policy, got, ok)
	}
}

// checkNotDecided sees that nothing is told of acts, and no best policy.
func checkNotDecided(t *testing.T, p []impl.Stmt, acts []impl.Act, policy [][]int, f []int) {
	t.Helper()
	checkNoPolicyIn(t, p, acts, policy, f)
	if got, most, ok := impl.BestPolicy(p, acts, f); ok || most != 0 || len(got) != 0 {
		t.Fatalf("BestPolicy %v, %v, %v = %v, %d, %v", p, acts, f, got, most, ok)
	}
}

func policyWanted(acts []impl.Act, policy [][]int) bool {
	if len(acts) > 2 || len(policy) != len(acts) {
		return false
	}
	for i, row := range policy {
		if len(row) != seenWanted(acts[i]) {
			return false
		}
		for _, value := range row {
			if value < 0 || value > 2 {
				return false
			}
		}
	}
	return true
}

func TestPoliciesOfActs(t *testing.T) {
	var rows [][]int
	for many := range 5 {
		rows = append(rows, make([]int, many), slices.Repeat([]int{2}, many))
		for at := range many {
			for _, value := range []int{math.MinInt, -1, 1, 3, math.MaxInt} {
				row := make([]int, many)
				row[at] = value
				rows = append(rows, row)
			}
		}
	}
	policies := [][][]int{nil, {{0}, {0}, {0}}, {{0}, {0, 0, 0}, {0}}}
	for i, row := range rows {
		policies = append(policies, [][]int{row})
		for _, other := range rows[i%3:] {
			policies = append(policies, [][]int{row, other})
		}
	}
	p, some := []impl.Stmt{draw1, evenDraw(0, 1), weigh2}, 0
	for _, acts := range [][]impl.Act{nil, {sees(0, -1)}, {sees(1, 2)}, {sees(0, -1), sees(1, -1)}, {sees(0, 0), sees(1, -1)}, {sees(0, -1), sees(1, 1)}, {sees(0, 3), sees(1, 0)}} {
		for _, policy := range policies {
			want := policyWanted(acts, policy)
			if got := impl.PolicyOk(acts, policy); got != want {
				t.Fatalf("PolicyOk %v, %v = %v", acts, policy, got)
			}
			if !want {
				checkNoPolicyIn(t, p, acts, policy, ones())
				continue
			}
			some++
			worth, ok := impl.WorthBy(p, acts, policy, ones())
			if !ok || worth != doneWanted(p, 0, [4]int{}, acts, policy, ones()) {
				t.Fatalf("WorthBy %v, %v = %d, %v", acts, policy, worth, ok)
			}
		}
	}
	if some < 50 {
		t.Errorf("only %d are policies", some)
	}
}

// PolicyOk is asked of no program: what an act sees below 0 is nothing, and all else has three values.
func TestPoliciesOfOtherActs(t *testing.T) {
	for _, at := range []int{math.MinInt, -1, 0, 11, math.MaxInt} {
		for _, v := range []int{math.MinInt, -2, -1, 0, 3, 4, math.MaxInt} {
			acts := []impl.Act{sees(at, v)}
			if one, three := impl.PolicyOk(acts, [][]int{{1}}), impl.PolicyOk(acts, [][]int{{2, 1, 0}}); one != (v < 0) || three != (v >= 0) {
				t.Errorf("PolicyOk %v = %v, %v", acts, one, three)
			}
		}
	}
	same := slices.Repeat([]impl.Act{sees(0, -1)}, 3)
	for many := range 4 {
		policy := slices.Repeat([][]int{{0}}, many)
		if got := impl.PolicyOk(same[:many], policy); got != (many <= 2) {
			t.Errorf("PolicyOk of %d acts = %v", many, got)
		}
		if many > 0 && (impl.PolicyOk(same[:many], policy[1:]) || impl.PolicyOk(same[1:many], policy)) {
			t.Errorf("PolicyOk of %d acts, and another number of rows", many)
		}
	}
}

// Values have a number from 0 to 9 for each state.
func TestDecidingOfNoValues(t *testing.T) {
	p := []impl.Stmt{draw1, evenDraw(0, 1), weigh2}
	lists := wrongLists()
	for _, number := range []int{-1, 10, 11, maxNumber} {
		for _, at := range []int{0, 1, 40, 80} {
			f := fullNumbers(at)
			f[at] = number
			lists = append(lists, f)
		}
	}
	for _, f := range lists {
		checkNotDecided(t, p, nil, nil, f)
		checkNotDecided(t, p, []impl.Act{sees(0, -1)}, [][]int{{0}}, f)
		checkNotDecided(t, p, []impl.Act{sees(0, -1), sees(1, 1)}, [][]int{{0}, {0, 0, 0}}, f)
	}
}

// The greatest worth that there is, by ten draws of the greatest weights, of which some are acts.
func TestGreatestDecisions(t *testing.T) {
	nines := slices.Repeat([]int{9}, 81)
	worth := 9
	for n := range 11 {
		p := times(evenDraw(2, 9), n)
		for i := range p {
			p[i] = turned(p[i], i)
		}
		for j, acts := range actsIn(p) {
			if n > 6 && j%7 != 0 {
				continue
			}
			want := worth
			for range acts {
				want /= 3
			}
			best, most, ok := impl.BestPolicy(p, acts, nines)
			if !ok || most != want || slices.ContainsFunc(best, func(row []int) bool { return slices.Max(row) != 0 }) {
				t.Fatalf("BestPolicy of %d draws, %v = %v, %d, %v; want %d", n, acts, best, most, ok, want)
			}
			policies := policiesFor(acts)
			last := policies[len(policies)-1]
			if got, ok := impl.WorthBy(p, acts, last, nines); !ok || got != want {
				t.Fatalf("WorthBy of %d draws, %v, %v = %d, %v; want %d", n, acts, last, got, ok, want)
			}
			if top, ok := impl.Climb(p, acts, last, nines); !ok || !sameRows(top, last) {
				t.Fatalf("Climb of %d draws, %v, %v = %v, %v", n, acts, last, top, ok)
			}
		}
		worth *= 27
	}
	checkActs(t, times(draw1, 11), []impl.Act{sees(0, -1)})
	checkNotDecided(t, times(draw1, 11), []impl.Act{sees(0, -1)}, [][]int{{0}}, nines)
}

// roomyRows returns rows with room behind each of them, and behind all.
func roomyRows(rows [][]int) [][]int {
	roomy := make([][]int, 0, len(rows)+3)
	for _, row := range rows {
		roomy = append(roomy, append(make([]int, 0, len(row)+5), row...))
	}
	return roomy
}

// wholeRows returns all that rows have room for, in memory of its own.
func wholeRows(rows [][]int) [][]int {
	var whole [][]int
	for _, row := range rows[:cap(rows)] {
		whole = append(whole, slices.Clone(row[:cap(row)]))
	}
	return whole
}

// spoilRows writes over rows, one by one, and sees that no other one changes with them.
func spoilRows(t *testing.T, rows [][]int, want [][]int) {
	t.Helper()
	checkRowsApart(t, rows, want)
	full := rows[:cap(rows)]
	for i := range full {
		full[i] = []int{-7}
	}
}

// What is returned is new memory, and what is given stays as it is, also behind its length.
func TestDecidingSharesNothing(t *testing.T) {
	stmts := join([]impl.Stmt{evenDraw(0, 1), evenDraw(1, 2), weigh2}, times(weigh3, 20))
	allActs := []impl.Act{sees(0, 1), sees(1, 0), sees(2, 2), sees(9, 9)}
	numbers := slices.Concat(fullNumbers(5), slices.Repeat([]int{7}, 20))
	p, acts, f := stmts[:3], allActs[:2], numbers[:81]
	start := roomyRows([][]int{{2, 1, 0}, {1, 1, 2}})
	beforeStmts, beforeActs, before, beforeStart := slices.Clone(stmts), slices.Clone(allActs), slices.Clone(numbers), wholeRows(start)
	wantBest, _, _ := impl.BestPolicy(p, acts, f)
	wantBetter, _ := impl.BetterBy(p, acts, start, f)
	wantTop, _ := impl.Climb(p, acts, start, f)
	for range 2 {
		best, _, _ := impl.BestPolicy(p, acts, f)
		better, ok := impl.BetterBy(p, acts, start, f)
		top, _ := impl.Climb(p, acts, start, f)
		stays, _ := impl.Climb(p, acts, wantTop, f)
		if !ok || !sameRows(best, wantBest) || !sameRows(better, wantBetter) || !sameRows(top, wantTop) || !sameRows(stays, wantTop) {
			t.Errorf("what is decided hangs on what was told: %v, %v, %v, %v", best, better, top, stays)
		}
		for _, made := range [][][]int{best, better, top, stays} {
			spoilRows(t, made, wholeRows(made)[:len(made)])
		}
		impl.WorthBy(p, acts, start, f)
		impl.ActsOk(p, acts)
		impl.PolicyOk(acts, start)
	}
	if !slices.Equal(stmts, beforeStmts) || !slices.Equal(allActs, beforeActs) || !slices.Equal(numbers, before) || !sameRows(wholeRows(start), beforeStart) {
		t.Error("what was given is changed")
	}
}
