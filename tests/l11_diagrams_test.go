package tests

import (
	"math"
	"slices"
	"testing"

	"loop.example/wholechance/impl"
)

// num is the cell of a number, and on that of a variable with three kids.
func num(number int) impl.Cell { return impl.Cell{Var: -1, Num: number} }

func on(v int, a int, b int, c int) impl.Cell { return impl.Cell{Var: v, Kids: [3]int{a, b, c}} }

// diagramWanted reports whether cells are a diagram, by the document's sentences.
func diagramWanted(d []impl.Cell) bool {
	for at, c := range d {
		if c.Var == -1 {
			if c.Num < 0 || c.Num > maxNumber || c.Kids != [3]int{0, 0, 0} {
				return false
			}
			continue
		}
		if c.Var < 0 || c.Var > 3 || c.Num != 0 {
			return false
		}
		for _, kid := range c.Kids {
			if kid < 0 || kid >= at || d[kid].Var != -1 && d[kid].Var <= c.Var {
				return false
			}
		}
	}
	return len(d) >= 1 && len(d) <= 121
}

// numbersIn has the numbers of all states for each cell, taken from those of its kids.
func numbersIn(d []impl.Cell) [][]int {
	var lists [][]int
	for _, c := range d {
		list := make([]int, 81)
		for state := range list {
			list[state] = c.Num
			if c.Var != -1 {
				list[state] = lists[c.Kids[valuesIn(state)[c.Var]]][state]
			}
		}
		lists = append(lists, list)
	}
	return lists
}

// sumsWanted adds for each cell the numbers of all states in which the variables
// ahead of its own one are 0.
func sumsWanted(d []impl.Cell) []int {
	var sums []int
	for at, list := range numbersIn(d) {
		sum := d[at].Num
		for state, number := range list {
			ahead := 0
			for v := range max(d[at].Var, 0) {
				ahead += valuesIn(state)[v]
			}
			if d[at].Var != -1 && ahead == 0 {
				sum += number
			}
		}
		sums = append(sums, sum)
	}
	return sums
}

// rowFor has the numbers of a list with the values of 3 changing first, and those of 0 last.
func rowFor(list []int) []int {
	row := make([]int, 81)
	for state, number := range list {
		values := valuesIn(state)
		row[27*values[0]+9*values[1]+3*values[2]+values[3]] = number
	}
	return row
}

// leastWanted goes over all parts of the row of a list: all cells are such parts,
// of 81, 27, 9 or 3 numbers by their variable, or of one. What ends first is there
// first, and of what ends together the shortest part.
func leastWanted(list []int) []impl.Cell {
	var d []impl.Cell
	var parts [][]int
	find := func(part []int) int {
		for third := len(part) / 3; third > 0; third /= 3 {
			if !slices.Equal(part[:third], part[third:2*third]) || !slices.Equal(part[:third], part[2*third:]) {
				break
			}
			part = part[:third]
		}
		return slices.IndexFunc(parts, func(other []int) bool { return slices.Equal(part, other) })
	}
	row := rowFor(list)
	for end := range 82 {
		for at, long := range []int{1, 3, 9, 27, 81} {
			if end == 0 || end%long != 0 || find(row[end-long:end]) >= 0 {
				continue
			}
			part, third := row[end-long:end], long/3
			parts = append(parts, part)
			if at == 0 {
				d = append(d, num(part[0]))
			} else {
				d = append(d, on(4-at, find(part[:third]), find(part[third:2*third]), find(part[2*third:])))
			}
		}
	}
	return d
}

// fullDiagram has all 121 cells that a list may have, none left out: the numbers,
// and behind them the cells of 3, of 2, of 1, and of 0.
func fullDiagram(list []int) []impl.Cell {
	var d []impl.Cell
	for _, number := range rowFor(list) {
		d = append(d, num(number))
	}
	from := 0
	for v := 3; v >= 0; v-- {
		to := len(d)
		for at := from; at < to; at += 3 {
			d = append(d, on(v, at, at+1, at+2))
		}
		from = to
	}
	return d
}

// someDiagram has so many cells that hang on a number alone, those of the last
// variables first; many of them are not led to, are there twice, have the same
// kids, or pass variables over.
func someDiagram(number int, many int, most int) []impl.Cell {
	n := uint32(number)*2654435761 + 1111
	below := func(end int) int {
		n = n*1664525 + 1013904223
		return int(n>>8) % end
	}
	var d []impl.Cell
	for at := range many {
		level := max(0, 4-(at*5+below(many))/(many+1))
		if below(9) == 0 {
			level = below(5)
		}
		if at == 0 || level > 3 {
			d = append(d, num(below(most+1)))
			continue
		}
		var kids []int
		for kid, c := range d {
			if c.Var == -1 || c.Var > level {
				kids = append(kids, kid)
			}
		}
		pick := func() int { return kids[max(below(len(kids)), below(len(kids)))] }
		d = append(d, on(level, pick(), pick(), pick()))
	}
	return d
}

// checkNoDiagram sees that of what is no diagram nothing is told.
func checkNoDiagram(t *testing.T, d []impl.Cell) {
	t.Helper()
	least, ok := impl.Least(d)
	if impl.DiagramOk(d) || ok || len(least) != 0 {
		t.Fatalf("%v: DiagramOk = %v, Least = %v, %v", d, impl.DiagramOk(d), least, ok)
	}
	if list, sums := impl.DiagramList(d), impl.CellSums(d); len(list)+len(sums) != 0 || impl.DiagramSum(d) != -1 {
		t.Fatalf("%v: DiagramList = %v, CellSums = %v, DiagramSum = %d", d, list, sums, impl.DiagramSum(d))
	}
	for state := -2; state < 84; state++ {
		if got := impl.DiagramAt(d, state); got != -1 {
			t.Fatalf("DiagramAt %v, %d = %d", d, state, got)
		}
	}
	for _, other := range [][]impl.Cell{{num(0)}, {num(1)}, {num(2), num(1), on(2, 0, 1, 1)}, d} {
		checkNoTimes(t, d, other)
		checkNoTimes(t, other, d)
	}
}

func checkNoTimes(t *testing.T, d []impl.Cell, e []impl.Cell) {
	t.Helper()
	if got, ok := impl.DiagramTimes(d, e); ok || len(got) != 0 {
		t.Fatalf("DiagramTimes %v, %v = %v, %v", d, e, got, ok)
	}
}

// checkDiagram compares all that is told of one diagram, or of what is none, with
// the document, and returns its list.
func checkDiagram(t *testing.T, d []impl.Cell) []int {
	t.Helper()
	if !diagramWanted(d) {
		checkNoDiagram(t, d)
		return nil
	}
	list := numbersIn(d)[len(d)-1]
	if !impl.DiagramOk(d) || !slices.Equal(impl.DiagramList(d), list) {
		t.Fatalf("%v: DiagramOk = %v, DiagramList = %v; want %v", d, impl.DiagramOk(d), impl.DiagramList(d), list)
	}
	for state := -2; state < 84; state++ {
		want := -1
		if state >= 0 && state < 81 {
			want = list[state]
		}
		if got := impl.DiagramAt(d, state); got != want {
			t.Fatalf("DiagramAt %v, %d = %d; want %d", d, state, got, want)
		}
	}
	if got, want := impl.CellSums(d), sumsWanted(d); !slices.Equal(got, want) {
		t.Fatalf("CellSums %v = %v; want %v", d, got, want)
	}
	if got := impl.DiagramSum(d); got != sumOf(list) {
		t.Fatalf("DiagramSum %v = %d; want %d", d, got, sumOf(list))
	}
	got, ok := impl.Least(d)
	if want := leastWanted(list); !ok || !slices.Equal(got, want) || len(got) > len(d) {
		t.Fatalf("Least %v = %v, %v; want %v", d, got, ok, want)
	}
	return list
}

// checkDiagramOf compares the least diagram of a list with the document, and returns it.
func checkDiagramOf(t *testing.T, list []int) []impl.Cell {
	t.Helper()
	got, ok := impl.DiagramOf(list)
	if want := leastWanted(list); !ok || !slices.Equal(got, want) {
		t.Fatalf("DiagramOf %v = %v, %v; want %v", list, got, ok, want)
	}
	if back := checkDiagram(t, got); !slices.Equal(back, list) {
		t.Fatalf("DiagramOf %v = %v, with the list %v", list, got, back)
	}
	checkNothingOver(t, got)
	return got
}

// checkNothingOver sees that each cell of a least diagram is led to, and there once,
// and that no cell has the same kids.
func checkNothingOver(t *testing.T, d []impl.Cell) {
	t.Helper()
	led := map[int]bool{len(d) - 1: true}
	for at := len(d) - 1; at >= 0; at-- {
		c := d[at]
		if !led[at] || slices.Index(d, c) != at {
			t.Fatalf("the cell %d of %v is not led to, or is there twice", at, d)
		}
		if c.Var == -1 {
			continue
		}
		if c.Kids[0] == c.Kids[1] && c.Kids[1] == c.Kids[2] {
			t.Fatalf("the kids of the cell %d of %v are the same", at, d)
		}
		for _, kid := range c.Kids {
			led[kid] = true
		}
	}
}

// checkProduct compares the product of two diagrams with that of their lists.
func checkProduct(t *testing.T, d []impl.Cell, e []impl.Cell) bool {
	t.Helper()
	first, second := numbersIn(d)[len(d)-1], numbersIn(e)[len(e)-1]
	products := make([]int, 81)
	for state := range products {
		products[state] = first[state] * second[state]
	}
	if slices.Max(products) > maxNumber {
		checkNoTimes(t, d, e)
		checkNoTimes(t, e, d)
		return false
	}
	want := leastWanted(products)
	got, ok := impl.DiagramTimes(d, e)
	back, alsoOk := impl.DiagramTimes(e, d)
	if !ok || !alsoOk || !slices.Equal(got, want) || !slices.Equal(back, want) {
		t.Fatalf("DiagramTimes %v, %v = %v, %v, and %v, %v the other way round; want %v", d, e, got, ok, back, alsoOk, want)
	}
	return true
}

// All diagrams of at most three cells with the numbers 0 and 1, and all of four of
// which the last one is of the variable 0 or 1.
func TestDiagramsOfFewCells(t *testing.T) {
	all := [][]impl.Cell{nil}
	for from := 0; len(all[from]) < 4; from++ {
		d := all[from]
		cells := []impl.Cell{num(0), num(1)}
		vars := []int{0, 1, 2, 3}
		if len(d) == 3 {
			cells, vars = nil, []int{0, 1}
		}
		for _, v := range vars {
			for number := range len(d) * len(d) * len(d) {
				cells = append(cells, on(v, number%len(d), number/len(d)%len(d), number/len(d)/len(d)))
			}
		}
		for _, c := range cells {
			if next := append(slices.Clone(d), c); diagramWanted(next) {
				all = append(all, next)
			} else if from%7 == 0 {
				checkNoDiagram(t, next)
			}
		}
	}
	checkNoDiagram(t, nil)
	checkNoDiagram(t, []impl.Cell{})
	for i, d := range all[1:] {
		checkDiagram(t, d)
		checkProduct(t, d, all[1+i*31%(len(all)-1)])
	}
	if len(all) < 3000 {
		t.Errorf("only %d diagrams", len(all))
	}
}

// Many diagrams, from one cell to the most, and products of many of them.
func TestDiagramsOfMany(t *testing.T) {
	wide := 0
	var last []impl.Cell
	for i := range 1500 {
		d := someDiagram(i, 1+i%121, []int{1, 3, 9, 100000, maxNumber}[i%5])
		if !diagramWanted(d) {
			t.Fatalf("%v is none", d)
		}
		list := checkDiagram(t, d)
		checkDiagramOf(t, list)
		checkProduct(t, d, d)
		if i > 0 {
			checkProduct(t, d, last)
		}
		last = d
		if least, _ := impl.Least(d); len(least) > 20 {
			wide++
		}
	}
	if wide < 100 {
		t.Errorf("only %d with more than 20 cells of their least diagram", wide)
	}
}

// Cells of other variables with the same kids are others, wherever the numbers of
// many more cells lead to.
func TestDiagramsOfTheSameKids(t *testing.T) {
	n := uint32(3)
	below := func(end int) int {
		n = n*1664525 + 1013904223
		return int(n>>8) % end
	}
	for range 3000 {
		same := [3]int{below(251), below(251), 500}
		list := make([]int, 81)
		for state := range list {
			values := valuesIn(state)
			list[state] = []int{below(251), same[values[3]], same[values[2]]}[values[0]]
		}
		got, ok := impl.DiagramOf(list)
		if want := leastWanted(list); !ok || !slices.Equal(got, want) {
			t.Fatalf("DiagramOf %v = %v, %v; want %v", list, got, ok, want)
		}
	}
}

// Promise 11: whatever the cells by which a list is told, its least diagram is the
// same, and that of another list is another one.
func TestSameListsHaveTheSameLeastDiagram(t *testing.T) {
	for i, list := range someLists() {
		want := checkDiagramOf(t, list)
		for _, d := range sameDiagrams(want, list) {
			if got := checkDiagram(t, d); !slices.Equal(got, list) {
				t.Fatalf("%v has the list %v; want %v", d, got, list)
			}
			if got, ok := impl.Least(d); !ok || !slices.Equal(got, want) {
				t.Fatalf("Least %v = %v, %v; want %v", d, got, ok, want)
			}
			if got, ok := impl.DiagramTimes(d, []impl.Cell{num(1)}); !ok || !slices.Equal(got, want) {
				t.Fatalf("DiagramTimes %v, 1 = %v, %v; want %v", d, got, ok, want)
			}
		}
		other := slices.Clone(list)
		other[i*17%81] ^= 1
		if got, ok := impl.DiagramOf(other); ok && slices.Equal(got, want) {
			t.Fatalf("%v and %v have the same diagram", list, other)
		}
	}
}

// sameDiagrams are other diagrams of a list than its least one.
func sameDiagrams(least []impl.Cell, list []int) [][]impl.Cell {
	all := [][]impl.Cell{least, fullDiagram(list)}
	if len(least) > 60 {
		return all
	}
	// Each cell twice, of which the second one is that to which kids lead.
	var twice, behind []impl.Cell
	for _, c := range least {
		second := c
		if c.Var != -1 {
			second.Kids = [3]int{2*c.Kids[0] + 1, 2 * c.Kids[1], 2*c.Kids[2] + 1}
		}
		twice = append(twice, second, second)
	}
	// Cells ahead to which nothing leads, and one of the variable 0 with the same kids.
	unled := []impl.Cell{num(maxNumber), num(5), on(3, 0, 1, 1), on(0, 2, 2, 0)}
	behind = append(behind, unled...)
	for _, c := range least {
		if c.Var != -1 {
			c.Kids = [3]int{c.Kids[0] + 4, c.Kids[1] + 4, c.Kids[2] + 4}
		}
		behind = append(behind, c)
	}
	all = append(all, twice, behind)
	if whole := len(behind) - 1; behind[whole].Var != 0 {
		all = append(all, append(slices.Clone(behind), on(0, whole, whole, whole)))
	}
	return all
}

// wantDiagram compares the least diagram of a list with one by hand.
func wantDiagram(t *testing.T, name string, number func(values [4]int) int, want ...impl.Cell) {
	t.Helper()
	list := make([]int, 81)
	for state := range list {
		list[state] = number(valuesIn(state))
	}
	got, ok := impl.DiagramOf(list)
	if !ok || !slices.Equal(got, want) {
		t.Errorf("%s: DiagramOf = %v, %v; want %v", name, got, ok, want)
	}
	checkDiagramOf(t, list)
}

func TestDiagramsByHand(t *testing.T) {
	wantDiagram(t, "noughts", func([4]int) int { return 0 }, num(0))
	wantDiagram(t, "one number", func([4]int) int { return maxNumber }, num(maxNumber))
	for v := range 4 {
		wantDiagram(t, "a variable alone", func(values [4]int) int { return 9 - values[v] }, num(9), num(8), num(7), on(v, 0, 1, 2))
		wantDiagram(t, "an event", func(values [4]int) int { return values[v] / 2 }, num(0), num(1), on(v, 0, 0, 1))
	}
	wantDiagram(t, "the first and the last variable", func(values [4]int) int { return 10*values[0] + values[3] },
		num(0), num(1), num(2), on(3, 0, 1, 2),
		num(10), num(11), num(12), on(3, 4, 5, 6),
		num(20), num(21), num(22), on(3, 8, 9, 10),
		on(0, 3, 7, 11))
	wantDiagram(t, "a variable that is passed over for one value", func(values [4]int) int { return values[1] * values[2] },
		num(0), num(1), num(2), on(2, 0, 1, 2), num(4), on(2, 0, 2, 4), on(1, 0, 3, 5))
	wantDiagram(t, "a sum modulo 3", func(values [4]int) int { return (values[0] + values[1] + values[2] + values[3]) % 3 },
		num(0), num(1), num(2), on(3, 0, 1, 2), on(3, 1, 2, 0), on(3, 2, 0, 1), on(2, 3, 4, 5),
		on(2, 4, 5, 3), on(2, 5, 3, 4), on(1, 6, 7, 8), on(1, 7, 8, 6), on(1, 8, 6, 7), on(0, 9, 10, 11))
	wantDiagram(t, "what is there again later", func(values [4]int) int { return []int{values[3], 3, values[3]}[values[1]] },
		num(0), num(1), num(2), on(3, 0, 1, 2), num(3), on(1, 3, 4, 3))
	wantDiagram(t, "the same of another variable", func(values [4]int) int {
		if values[0] == 0 {
			return values[3]
		}
		return values[2]
	}, num(0), num(1), num(2), on(3, 0, 1, 2), on(2, 0, 1, 2), on(0, 3, 4, 4))
}

// The list of different numbers has all cells that there may be, and the greatest
// numbers have the greatest sums.
func TestGreatestDiagrams(t *testing.T) {
	list := make([]int, 81)
	for state := range list {
		list[state] = maxNumber - state*251
	}
	if d := checkDiagramOf(t, list); len(d) != 121 || d[120] != on(0, 39, 79, 119) {
		t.Errorf("DiagramOf = %v", d)
	}
	for state := range list {
		list[state] = maxNumber - 251*(state%27)
	}
	if d := checkDiagramOf(t, list); len(d) != 27+9+3+1 {
		t.Errorf("DiagramOf = %v", d)
	}
	most := fullDiagram(slices.Repeat([]int{maxNumber}, 81))
	checkDiagram(t, most)
	checkDiagram(t, append(most, num(0)))
	if impl.DiagramSum(most) != 81*maxNumber || impl.CellSums(most)[117] != 27*maxNumber {
		t.Errorf("DiagramSum = %d, CellSums = %v", impl.DiagramSum(most), impl.CellSums(most))
	}
	for _, many := range []int{1, 2, 120, 121, 122, 123, 1000} {
		noughts := slices.Repeat([]impl.Cell{num(0)}, many)
		checkDiagram(t, noughts)
		if impl.DiagramOk(noughts) != (many <= 121) {
			t.Errorf("DiagramOk of %d cells", many)
		}
		if many > 1 {
			noughts[many-1] = on(3, many-2, many-2, 0)
			checkDiagram(t, noughts)
		}
	}
}

// wantSums compares what is told of cells with what is told by hand.
func wantSums(t *testing.T, name string, d []impl.Cell, least []impl.Cell, sum int, sums ...int) {
	t.Helper()
	if got, ok := impl.Least(d); !ok || !slices.Equal(got, least) {
		t.Errorf("%s: Least = %v, %v", name, got, ok)
	}
	if got := impl.CellSums(d); impl.DiagramSum(d) != sum || !slices.Equal(got, sums) {
		t.Errorf("%s: DiagramSum = %d, CellSums = %v", name, impl.DiagramSum(d), got)
	}
	checkDiagram(t, d)
}

// The cases to watch: cells to which nothing leads, cells whose kids are the same,
// variables that are passed over.
func TestDiagramsOfStrangeCells(t *testing.T) {
	wantSums(t, "nothing leads to the first ones", []impl.Cell{num(8), on(0, 0, 0, 0), num(5), on(1, 0, 2, 2), num(7)},
		[]impl.Cell{num(7)}, 7*81, 8, 8*81, 5, 18*9, 7)
	wantSums(t, "nothing leads to a greater number", []impl.Cell{num(maxNumber), num(2), num(3), on(2, 1, 2, 2)},
		[]impl.Cell{num(2), num(3), on(2, 0, 1, 1)}, 8*27, maxNumber, 2, 3, 8*3)
	wantSums(t, "the same kids", []impl.Cell{num(4), on(2, 0, 0, 0)},
		[]impl.Cell{num(4)}, 4*81, 4, 4*9)
	wantSums(t, "the same kids all the way", []impl.Cell{num(4), on(3, 0, 0, 0), on(2, 1, 1, 1), on(1, 2, 2, 2), on(0, 3, 3, 3)},
		[]impl.Cell{num(4)}, 4*81, 4, 4*3, 4*9, 4*27, 4*81)
	wantSums(t, "kids that are alike", []impl.Cell{num(4), num(4), num(4), on(1, 2, 1, 0)},
		[]impl.Cell{num(4)}, 4*81, 4, 4, 4, 4*27)
	wantSums(t, "alike a level below", []impl.Cell{num(1), on(3, 0, 0, 0), num(2), on(2, 2, 1, 0), on(2, 2, 0, 1), on(1, 3, 4, 3)},
		[]impl.Cell{num(2), num(1), on(2, 0, 1, 1)}, 4*27, 1, 3, 2, 4*3, 4*3, 4*9)
	wantSums(t, "passed over ahead", []impl.Cell{num(1), num(2), num(3), on(3, 0, 1, 2)},
		[]impl.Cell{num(1), num(2), num(3), on(3, 0, 1, 2)}, 6*27, 1, 2, 3, 6)
	wantSums(t, "passed over behind", []impl.Cell{num(1), num(2), num(3), on(0, 0, 1, 2)},
		[]impl.Cell{num(1), num(2), num(3), on(0, 0, 1, 2)}, 6*27, 1, 2, 3, 6*27)
	wantSums(t, "passed over between", []impl.Cell{num(5), num(0), on(3, 1, 0, 1), on(1, 2, 1, 0), on(0, 3, 2, 1)},
		[]impl.Cell{num(0), num(5), on(3, 0, 1, 0), on(1, 2, 0, 1), on(0, 3, 2, 0)},
		5*3+5*9+5*9, 5, 0, 5, 5*3+5*9, 5*3+5*9+5*9)
	wantSums(t, "numbers in another order than that of the kids", []impl.Cell{num(6), num(0), on(2, 1, 1, 0)},
		[]impl.Cell{num(0), num(6), on(2, 0, 0, 1)}, 6*27, 6, 0, 6*3)
}

// What is wrong with a cell makes it no diagram, also if nothing leads to it.
func TestDiagramsOfWrongCells(t *testing.T) {
	wrong := []int{math.MinInt, -2, -1, 0, 1, 2, 3, 4, 5, 6, 7, 8, 81, 120, 121, maxNumber, maxNumber + 1, math.MaxInt}
	for _, d := range [][]impl.Cell{
		{num(3)},
		{num(0), num(1), on(3, 0, 1, 1)},
		{num(0), num(1), on(3, 0, 1, 1), num(6)},
		{num(2), num(1), on(3, 0, 1, 1), on(2, 2, 0, 2), on(1, 3, 2, 0), on(0, 4, 4, 3)},
		{num(2), on(0, 0, 0, 0), on(3, 0, 0, 0), on(1, 2, 2, 0), on(2, 2, 0, 2), on(1, 4, 4, 3)},
	} {
		for at := range d {
			for _, number := range wrong {
				one := slices.Clone(d)
				one[at].Var = number
				checkDiagram(t, one)
				one[at] = d[at]
				one[at].Num = number
				checkDiagram(t, one)
				for value := range 3 {
					one[at] = d[at]
					one[at].Kids[value] = number
					checkDiagram(t, one)
				}
			}
		}
	}
	for _, c := range []impl.Cell{
		{}, {Var: -1, Num: -1}, {Var: -1, Num: maxNumber + 1}, {Var: -2}, {Var: 4}, {Var: 1, Num: 1}, {Var: -1, Kids: [3]int{0, 0, 1}},
		on(0, 0, 0, -1), on(0, 0, 2, 0), on(3, 1, 1, 0), on(2, 0, 1, 0), on(1, 3, 0, 0), on(0, math.MaxInt, 0, 0), on(0, math.MinInt, 0, 0),
	} {
		checkNoDiagram(t, []impl.Cell{c})
		if c != (impl.Cell{}) {
			checkNoDiagram(t, []impl.Cell{num(1), on(2, 0, 0, 0), c})
			checkNoDiagram(t, []impl.Cell{num(1), on(2, 0, 0, 0), c, num(1)})
		}
	}
}

func TestDiagramsOfNoLists(t *testing.T) {
	for _, list := range append(wrongLists(), nil) {
		if got, ok := impl.DiagramOf(list); ok || len(got) != 0 {
			t.Errorf("DiagramOf %v = %v, %v", list, got, ok)
		}
	}
	d := []impl.Cell{num(4), num(1), on(0, 0, 1, 0)}
	for _, state := range []int{math.MinInt, -81, -1, 81, 82, math.MaxInt} {
		if got := impl.DiagramAt(d, state); got != -1 {
			t.Errorf("DiagramAt %d = %d", state, got)
		}
	}
}

// wantProduct compares a product with one by hand, or with none if there are no cells.
func wantProduct(t *testing.T, name string, d []impl.Cell, e []impl.Cell, want ...impl.Cell) {
	t.Helper()
	got, ok := impl.DiagramTimes(d, e)
	if ok != (len(want) > 0) || !slices.Equal(got, want) {
		t.Errorf("%s: DiagramTimes = %v, %v; want %v", name, got, ok, want)
	}
	if checkProduct(t, d, e) != ok {
		t.Errorf("%s: DiagramTimes = %v", name, ok)
	}
}

// Products may be as great as numbers of lists, but no greater; what is nowhere
// multiplied may be.
func TestDiagramsOfProducts(t *testing.T) {
	numbers := func(list ...int) []impl.Cell {
		return []impl.Cell{num(list[0]), num(list[1]), num(list[2]), on(2, 0, 1, 2)}
	}
	wantProduct(t, "the greatest one", []impl.Cell{num(maxNumber)}, []impl.Cell{num(1)}, num(maxNumber))
	wantProduct(t, "the greatest one of others", []impl.Cell{num(40000)}, []impl.Cell{num(25000)}, num(maxNumber))
	wantProduct(t, "one more", []impl.Cell{num(40000)}, []impl.Cell{num(25001)})
	wantProduct(t, "just too great", []impl.Cell{num(31623)}, []impl.Cell{num(31623)})
	wantProduct(t, "just not too great", []impl.Cell{num(31622)}, []impl.Cell{num(31623)}, num(31622*31623))
	wantProduct(t, "the most", []impl.Cell{num(maxNumber)}, []impl.Cell{num(maxNumber)})
	wantProduct(t, "nothing times the most", []impl.Cell{num(0)}, fullDiagram(slices.Repeat([]int{maxNumber}, 81)), num(0))
	wantProduct(t, "never together", numbers(maxNumber, 0, 1), numbers(1, maxNumber, 7), num(maxNumber), num(0), num(7), on(2, 0, 1, 2))
	wantProduct(t, "together at last", numbers(0, 1, 40000), numbers(maxNumber, 1, 30000))
	wantProduct(t, "nothing leads to what is great",
		[]impl.Cell{num(maxNumber), num(2), on(1, 0, 0, 0), on(3, 1, 1, 1)}, []impl.Cell{num(maxNumber), on(0, 0, 0, 0), num(3)}, num(6))
	wantProduct(t, "other variables", numbers(1, 2, 3), []impl.Cell{num(0), num(2), on(1, 0, 1, 0)},
		num(0), num(2), num(4), num(6), on(2, 1, 2, 3), on(1, 0, 4, 0))
	wantProduct(t, "alike behind the product", numbers(6, 3, 2), numbers(1, 2, 3), num(6))
	wantProduct(t, "alike kids behind it", []impl.Cell{num(1), num(2), num(3), on(3, 0, 1, 0), on(3, 0, 2, 0), on(0, 3, 4, 3)},
		[]impl.Cell{num(1), num(0), on(3, 0, 1, 0)}, num(1), num(0), on(3, 0, 1, 0))
	for i := range 2000 {
		d := someDiagram(i, 5+i%60, 50000)
		checkProduct(t, d, someDiagram(i+7, 5+i%50, []int{1, 20000, 50000}[i%3]))
	}
}

// The diagram of what a program weighs is multiplied by that of a weighing, or of
// an event, as its weights are.
func TestDiagramsOfPrograms(t *testing.T) {
	many := 0
	for i := range 600 {
		p := wideStmts(i, 2+i%6)
		weights := impl.WeightsOf(p)
		if len(weights) == 0 || slices.Max(weights) > maxNumber {
			continue
		}
		many++
		d := checkDiagramOf(t, weights)
		if got := impl.DiagramSum(d); got != impl.TotalOf(p) {
			t.Fatalf("DiagramSum %v = %d; want %d", p, got, impl.TotalOf(p))
		}
		v, other := i%4, (i+1+i/4%3)%4
		marginal, _ := impl.MarginalOf(weights, v)
		for value := range 3 {
			event, _ := impl.DiagramOf(impl.EventOf(v, value))
			both, ok := impl.DiagramTimes(d, event)
			if !ok || impl.DiagramSum(both) != marginal[value] {
				t.Fatalf("%v, %d, %d: DiagramTimes = %v, %v; want the sum %d", p, v, value, both, ok, marginal[value])
			}
		}
		s := impl.Stmt{Kind: impl.StWeighBy, A: v, B: other, W: [3]int{i % 3, 4, 1}}
		behind, ok := impl.Joined(p, []impl.Stmt{s})
		if !ok || slices.Max(impl.WeightsOf(behind)) > maxNumber {
			continue
		}
		weighing := make([]int, 81)
		for state := range weighing {
			weighing[state] = s.W[(valuesIn(state)[v]+valuesIn(state)[other])%3]
		}
		got, _ := impl.DiagramTimes(d, checkDiagramOf(t, weighing))
		if want := checkDiagramOf(t, impl.WeightsOf(behind)); !slices.Equal(got, want) {
			t.Fatalf("%v: DiagramTimes = %v; want %v", behind, got, want)
		}
	}
	if many < 300 {
		t.Errorf("only %d programs", many)
	}
}

// spoilCells writes over cells, and over what is behind them.
func spoilCells(d []impl.Cell) {
	for i := range d[:cap(d)] {
		d[:cap(d)][i] = impl.Cell{Var: -7, Num: -7, Kids: [3]int{-7, -7, -7}}
	}
}

// What is returned is new memory, and what is given stays as it is, also behind its length.
func TestDiagramsShareNothing(t *testing.T) {
	for i := range 150 {
		whole := slices.Concat(someDiagram(i, 1+i%121, 9), slices.Repeat([]impl.Cell{num(-5)}, 130))
		before := slices.Clone(whole)
		d := whole[:1+i%121]
		list := rowWith(numbersIn(d)[i%121], 6, 6, 6)
		listBefore := slices.Clone(list)
		for range 2 {
			checkDiagram(t, d)
			checkProduct(t, d, d)
			checkDiagramOf(t, list[:81])
			of, _ := impl.DiagramOf(list[:81])
			least, _ := impl.Least(d)
			again, _ := impl.Least(of)
			product, _ := impl.DiagramTimes(d, d)
			byOne, _ := impl.DiagramTimes([]impl.Cell{num(1)}, d)
			for _, cells := range [][]impl.Cell{of, least, again, product, byOne} {
				spoilCells(cells)
			}
			spoil(impl.DiagramList(d))
			spoil(impl.CellSums(d))
			if !slices.Equal(whole, before) || !slices.Equal(list, listBefore) {
				t.Fatal("what was given is changed")
			}
		}
	}
}
