package tests

import (
	"go/ast"
	"go/token"
	"go/types"
	"testing"
)

// bodyOf returns what a function of impl does.
func (c *code) bodyOf(name string) *ast.BlockStmt {
	for _, file := range c.files {
		for _, d := range file.Decls {
			if f, ok := d.(*ast.FuncDecl); ok && f.Name.Name == name {
				return f.Body
			}
		}
	}
	return nil
}

// uses reports whether a piece of code names something of impl, or a function that does.
func (c *code) uses(n ast.Node, name string, seen map[string]bool) bool {
	found := false
	ast.Inspect(n, func(n ast.Node) bool {
		id, ok := n.(*ast.Ident)
		if !ok || c.info.Uses[id] == nil || found {
			return !found
		}
		found = id.Name == name
		// A variable may have the name of a function.
		_, isFunc := c.info.Uses[id].(*types.Func)
		if body := c.bodyOf(id.Name); !found && isFunc && body != nil && !seen[id.Name] {
			seen[id.Name] = true
			found = c.uses(body, name, seen)
		}
		return !found
	})
	return found
}

func (c *code) reaches(t *testing.T, from string, names ...string) {
	t.Helper()
	for _, name := range names {
		body := c.bodyOf(from)
		if body == nil || !c.uses(body, name, map[string]bool{}) {
			t.Errorf("%s does without %s", from, name)
		}
	}
}

// Of the section Ways: statements as bytes of a code; states as numbers with
// tables of their figures; loops told out as they are read.
func TestWaysOfPrograms(t *testing.T) {
	c := readCode(t)
	for _, name := range []string{"StmtOk", "StmtReads", "StmtSets"} {
		c.reaches(t, name, "kindCodes")
	}
	c.reaches(t, "ValueAt", "placeOf")
	c.reaches(t, "WithValue", "placeOf")
	asRead := false
	ast.Inspect(c.bodyOf("Unrolled"), func(n ast.Node) bool {
		if round, ok := n.(*ast.ForStmt); ok {
			asRead = asRead || c.uses(round, "StLoop", map[string]bool{}) && c.uses(round, "append", map[string]bool{})
		}
		return true
	})
	if !asRead {
		t.Error("Unrolled does not tell loops out as it reads them")
	}
}

// Of the section Ways: one row of draws that counts up; runs that begin where
// the last one differs; weights kept on a stack.
func TestWaysOfTraces(t *testing.T) {
	c := readCode(t)
	for _, name := range []string{"TracesOf", "BestTrace"} {
		c.reaches(t, name, "countUp")
		if c.uses(c.bodyOf(name), "RunTrace", map[string]bool{}) {
			t.Errorf("%s runs each trace from the first statement on", name)
		}
	}
	c.reaches(t, "countUp", "row", "stack")
	c.reaches(t, "runOn", "stack", "weight")
}

// Of the section Ways: weights kept for the states alone that have one;
// statements that draw nothing done by moving; variables that are over left out.
func TestWaysOfWeights(t *testing.T) {
	c := readCode(t)
	for _, name := range []string{"WeightsFrom", "TotalOf", "PushOn"} {
		c.reaches(t, name, "front", "step", "liveAhead", "valuesOnly")
		if c.uses(c.bodyOf(name), "tracer", map[string]bool{}) {
			t.Errorf("%s goes through traces", name)
		}
	}
	c.reaches(t, "put", "weight", "where", "live", "valuesOnly")
	c.reaches(t, "step", "isDraw", "stepRun", "put")
}

// Of the section Ways: common divisors kept while one sums; means by one pass;
// products of two words.
func TestWaysOfAnswers(t *testing.T) {
	c := readCode(t)
	for _, name := range []string{"Reduced", "AnswerOf"} {
		c.reaches(t, name, "tallyOf", "divided")
	}
	c.reaches(t, "tallyOf", "sum", "common", "commonOf")
	if many := countLoops(c.bodyOf("tallyOf")); many != 1 {
		t.Errorf("tallyOf goes over numbers %d times", many)
	}
	if many := countLoops(c.bodyOf("MeanOf")); many != 1 || c.uses(c.bodyOf("MeanOf"), "MarginalOf", map[string]bool{}) {
		t.Errorf("MeanOf has %d passes of its own", many)
	}
	c.reaches(t, "Apart", "productOf", "twoWords", "high", "low")
}

// Of the section Ways: one row of values that is changed in its place; states
// that nothing leads to left out; statements from the last one on.
func TestWaysOfBackward(t *testing.T) {
	c := readCode(t)
	for _, name := range []string{"ValuesBack", "StepBack", "WorthOf", "ChanceOf"} {
		c.reaches(t, name, "worthAhead", "ledFrom", "takeBack")
	}
	for _, name := range []string{"ValuesBack", "StepBack", "WorthOf"} {
		for _, forward := range []string{"sweep", "tracer"} {
			if c.uses(c.bodyOf(name), forward, map[string]bool{}) {
				t.Errorf("%s goes forward by %s", name, forward)
			}
		}
	}
	c.reaches(t, "worthIn", "led", "row")
	if !c.countsDown("worthAhead", "takeBack") {
		t.Error("worthAhead does not go from the last statement on")
	}
	if !setsIn(c.bodyOf("takeThree"), "row") {
		t.Error("takeThree does not change the row in its place")
	}
}

// Of the section Ways: a window of two that moves back after each change; rows
// of weights as one number; kinds by a table.
func TestWaysOfChanges(t *testing.T) {
	c := readCode(t)
	for _, name := range []string{"ChangeOk", "ChangeDo", "ChangesOf", "FactorBy", "Tidy"} {
		c.reaches(t, name, "windowAt", "changeCodes", "rowOf")
	}
	c.reaches(t, "foldedWeights", "rowOf", "weightsOfRow")
	c.reaches(t, "moved", "rowOf", "turnedRow", "weightsOfRow")
	c.reaches(t, "Tidy", "toChange", "do")
	if c.uses(c.bodyOf("Tidy"), "ChangesOf", map[string]bool{}) {
		t.Error("Tidy looks for all changes again after each one")
	}
	c.reaches(t, "do", "withChange", "moveBack")
	if !setsIn(c.bodyOf("moveBack"), "from") {
		t.Error("moveBack does not move the window")
	}
}

// Of the section Ways: sets as bits; one pass from the end; statements marked in
// one word.
func TestWaysOfSlices(t *testing.T) {
	c := readCode(t)
	for _, name := range []string{"NeedsOf", "SliceOf", "LiveAt"} {
		c.reaches(t, name, "markedTo", "mark", "bitOf")
		if c.uses(c.bodyOf(name), "sweep", map[string]bool{}) {
			t.Errorf("%s goes forward", name)
		}
	}
	c.reaches(t, "SeenOf", "liveAhead", "bitOf")
	if many := countLoops(c.bodyOf("markedTo")); many != 1 || !c.countsDown("markedTo", "mark") {
		t.Errorf("markedTo goes over statements %d times, or not from the last one on", many)
	}
	c.reaches(t, "mark", "needed")
	c.reaches(t, "isMarked", "needed")
	marksBit := false
	ast.Inspect(c.bodyOf("mark"), func(n ast.Node) bool {
		set, ok := n.(*ast.AssignStmt)
		marksBit = marksBit || ok && set.Tok == token.OR_ASSIGN
		return true
	})
	if !marksBit {
		t.Error("mark does not mark statements by bits")
	}
}

// Of the section Ways: numbers by strides of variables; products filled in by
// counting up; variables as bits.
func TestWaysOfFactors(t *testing.T) {
	c := readCode(t)
	for _, name := range []string{"FactorTimes", "SumOut", "SetIn", "ListOfFactors"} {
		c.reaches(t, name, "countedUp", "numberIn", "bitOf")
	}
	c.reaches(t, "FactorAt", "numberIn")
	c.reaches(t, "FactorOk", "bitOf")
	for _, name := range []string{"SingleOk", "FactorsOf"} {
		c.reaches(t, name, "namedIn", "bitOf")
	}
	c.reaches(t, "FactorsOf", "countedUp")
	c.reaches(t, "numberIn", "stride", "Values")
	for _, name := range []string{"timesOver", "summed", "factorOfStmt"} {
		if !setsIn(c.bodyOf(name), "Nums") {
			t.Errorf("%s does not fill numbers in", name)
		}
	}
}

// Of the section Ways: products and sums in one pass; orders by dynamic
// programming over sets of variables; factors as strided arrays.
func TestWaysOfElimination(t *testing.T) {
	c := readCode(t)
	for _, name := range []string{"EliminateOne", "Eliminate"} {
		c.reaches(t, name, "productTo", "stridedOf", "at", "strides")
		for _, other := range []string{"timesOver", "summed"} {
			if c.uses(c.bodyOf(name), other, map[string]bool{}) {
				t.Errorf("%s takes products and sums one behind the other", name)
			}
		}
	}
	if !setsIn(c.bodyOf("productTo"), "Nums") {
		t.Error("productTo does not add products as it takes them")
	}
	c.reaches(t, "at", "stride")
	c.reaches(t, "BestOrder", "leastWidths")
	for _, name := range []string{"WidthOf", "BestOrder", "GreedyOrder"} {
		c.reaches(t, name, "setsOf", "widthBehind", "bitOf")
		if c.uses(c.bodyOf(name), "productTo", map[string]bool{}) {
			t.Errorf("%s multiplies numbers", name)
		}
	}
	if c.uses(c.bodyOf("BestOrder"), "WidthOf", map[string]bool{}) || !c.countsDown("leastWidths", "nextBy") {
		t.Error("BestOrder does not go over sets of variables, from the greatest one down")
	}
	c.reaches(t, "nextBy", "least", "gone")
}

// Of the section Ways: messages kept till all are told; from the leaves to a root
// and back; pairs as bits.
func TestWaysOfMessages(t *testing.T) {
	c := readCode(t)
	for _, name := range []string{"MessageOf", "BeliefOf"} {
		c.reaches(t, name, "tellAll", "told", "pairs", "pairBit")
		for _, other := range []string{"productTo", "timesOver", "summed"} {
			if c.uses(c.bodyOf(name), other, map[string]bool{}) {
				t.Errorf("%s multiplies whole factors", name)
			}
		}
	}
	c.reaches(t, "NextTo", "pairs", "bitOf")
	if !setsIn(c.bodyOf("tell"), "told") {
		t.Error("tell does not keep what is told")
	}
	if c.uses(c.bodyOf("known"), "tell", map[string]bool{}) {
		t.Error("what is told is told again wherever it is used")
	}
	if !c.countsDown("tellAll", "tell") || countLoops(c.bodyOf("tellAll")) != 2 {
		t.Error("tellAll does not go from the leaves to the roots, and back")
	}
}

// Of the section Ways: cells found by a table of what they are; products by pairs
// of cells; sums kept with each cell.
func TestWaysOfDiagrams(t *testing.T) {
	c := readCode(t)
	for _, name := range []string{"DiagramOf", "Least", "DiagramTimes"} {
		c.reaches(t, name, "cellFor", "slotOf", "slots")
	}
	if !setsIn(c.bodyOf("cellFor"), "slots") {
		t.Error("cellFor does not keep in the table where a cell is")
	}
	c.reaches(t, "slotOf", "levelOf", "Num", "Kids")
	c.reaches(t, "DiagramTimes", "cellOfPair", "kept")
	if !setsIn(c.bodyOf("cellOfPair"), "kept") {
		t.Error("cellOfPair does not keep what a pair is")
	}
	for _, name := range []string{"DiagramTimes", "DiagramSum", "CellSums"} {
		for _, other := range []string{"numberLedTo", "weave", "States"} {
			if c.uses(c.bodyOf(name), other, map[string]bool{}) {
				t.Errorf("%s goes over all states", name)
			}
		}
	}
	c.reaches(t, "DiagramSum", "CellSums")
}

// Of the section Ways: pairs of numbers that are added and multiplied together; all
// slopes at once, from the end; states with a weight alone.
func TestWaysOfSlopes(t *testing.T) {
	c := readCode(t)
	c.reaches(t, "SlopeOf", "sloped", "toEnd", "stepIn", "weightOf")
	c.reaches(t, "stepIn", "plus", "times")
	for _, name := range []string{"plus", "times"} {
		c.reaches(t, name, "sloped", "weight", "slope")
	}
	if c.uses(c.bodyOf("SlopeOf"), "WeightsFrom", map[string]bool{}) {
		t.Error("SlopeOf takes weights and slopes one behind the other")
	}
	for _, name := range []string{"UsesOf", "PassedOver", "Steepest"} {
		c.reaches(t, name, "totalSlopes")
		if c.uses(c.bodyOf(name), "sloped", map[string]bool{}) {
			t.Errorf("%s tells slopes one by one", name)
		}
	}
	if many := countLoops(c.bodyOf("totalSlopes")); many != 1 || !c.countsDown("totalSlopes", "slopesBehind") {
		t.Errorf("totalSlopes goes over statements %d times, or not from the last one on", many)
	}
	c.reaches(t, "totalSlopes", "takeBack", "frontsOf", "runs")
	c.reaches(t, "toEnd", "sloped")
}

// Of the section Ways: values backward for all policies at once; acts that see what
// is drawn ahead of them decided by what is worth most there.
func TestWaysOfDeciding(t *testing.T) {
	c := readCode(t)
	for _, name := range []string{"WorthBy", "BestPolicy", "BetterBy", "Climb"} {
		c.reaches(t, name, "worthsOf", "passBack", "rowAhead", "ledFrom", "choiceOf")
		for _, forward := range []string{"sweep", "tracer"} {
			if c.uses(c.bodyOf(name), forward, map[string]bool{}) {
				t.Errorf("%s goes forward by %s", name, forward)
			}
		}
	}
	if many := countLoops(c.bodyOf("worthsOf")); many != 1 || !c.countsDown("worthsOf", "passBack") {
		t.Errorf("worthsOf goes over statements %d times, or not from the last one on", many)
	}
	for _, name := range []string{"worthUnder", "worthsBehind", "bestOf", "decidedBy", "betterOf"} {
		if c.uses(c.bodyOf(name), "worthsOf", map[string]bool{}) {
			t.Errorf("%s goes over statements for policies one by one", name)
		}
	}
	c.reaches(t, "BestPolicy", "bestOf", "worthsBehind", "decidedBy")
	if c.uses(c.bodyOf("decidedBy"), "nextRow", map[string]bool{}) {
		t.Error("decidedBy tries all rows of the last act")
	}
}

// countsDown reports whether a function has a loop that counts down and calls another one.
func (c *code) countsDown(name string, called string) bool {
	found := false
	ast.Inspect(c.bodyOf(name), func(n ast.Node) bool {
		if round, ok := n.(*ast.ForStmt); ok {
			step, ok := round.Post.(*ast.IncDecStmt)
			found = found || ok && step.Tok == token.DEC && c.uses(round, called, map[string]bool{})
		}
		return true
	})
	return found
}

// setsIn reports whether a piece of code sets elements of a list that is a field,
// or of lists in it.
func setsIn(n ast.Node, field string) bool {
	found := false
	ast.Inspect(n, func(n ast.Node) bool {
		set, ok := n.(*ast.AssignStmt)
		if !ok || len(set.Lhs) != 1 {
			return true
		}
		element, is := set.Lhs[0].(*ast.IndexExpr)
		for is {
			list, ok := element.X.(*ast.SelectorExpr)
			found = found || ok && list.Sel.Name == field
			element, is = element.X.(*ast.IndexExpr)
		}
		return true
	})
	return found
}

func countLoops(n ast.Node) int {
	many := 0
	ast.Inspect(n, func(n ast.Node) bool {
		switch n.(type) {
		case *ast.ForStmt, *ast.RangeStmt:
			many++
		}
		return true
	})
	return many
}
