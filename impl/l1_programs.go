package impl

// Limits of programs.
const (
	Vars      = 4
	Values    = 3
	States    = 81
	MaxStmts  = 10
	MaxSteps  = 12
	MaxWeight = 9
	MaxTimes  = 3
)

// Kinds of statements.
const (
	StSet     = 0
	StAdd     = 1
	StDraw    = 2
	StDrawBy  = 3
	StWeigh   = 4
	StWeighBy = 5
	StSkip    = 6
	StLoop    = 7
)

// Each kind has codeSize bytes of kindCodes, so that its line of the document's
// table stands in one place: what A, B, C and W may be, what is read, what is set.
//
//	v variable    o another variable than A    p variable or -1    c value
//	k 1 to MaxSteps    m 1 to MaxStmts    t 0 to MaxTimes    w weights    0 only 0
//	then a, b, 2 or - if A, B, both or none is read, and a or - if A or none is set
const (
	kinds     = 8
	codeSize  = 6
	codeB     = 1
	codeC     = 2
	codeW     = 3
	codeReads = 4
	codeSets  = 5
	kindCodes = "vpc0ba" + // StSet
		"vo002a" + // StAdd
		"v00w-a" + // StDraw
		"vo0wba" + // StDrawBy
		"v00wa-" + // StWeigh
		"vo0w2-" + // StWeighBy
		"vkc0a-" + // StSkip
		"0mt0--" // StLoop
)

// Stmt is a statement: its kind, up to three numbers, and weights.
type Stmt struct {
	Kind int
	A    int
	B    int
	C    int
	W    [3]int
}

// StmtOk reports whether a statement is one.
func StmtOk(s Stmt) bool {
	if !within(s.Kind, 0, kinds-1) {
		return false
	}
	code := kindCode(s.Kind)
	if !fieldOk(code[0], s.A, s.A) || !fieldOk(code[codeB], s.B, s.A) || !fieldOk(code[codeC], s.C, s.A) {
		return false
	}
	if hasWeights(s) {
		return weightsOk(s.W)
	}
	return s.W == [3]int{}
}

// Unrolled returns a program with its loops told out.
func Unrolled(p []Stmt) ([]Stmt, bool) {
	if len(p) > MaxStmts || !stmtsOk(p) {
		return nil, false
	}
	var list []Stmt
	// Each round goes on by at least one statement, and adds at most
	// MaxStmts of them MaxTimes times before the length is looked at.
	for at := 0; at < len(p); {
		many, times := 1, 1
		if p[at].Kind == StLoop {
			many, times = p[at].B, p[at].C
			at++
			if !bodyOk(p[at:], many) {
				return nil, false
			}
		}
		for i := 0; i < times; i++ {
			list = append(list, p[at:at+many]...)
		}
		if len(list) > MaxSteps {
			return nil, false
		}
		at += many
	}
	return list, true
}

// ProgramOk reports whether statements are a program.
func ProgramOk(p []Stmt) bool {
	_, ok := Unrolled(p)
	return ok
}

// PlainOk reports whether a program has neither skips nor loops.
func PlainOk(p []Stmt) bool {
	if !ProgramOk(p) {
		return false
	}
	for _, s := range p {
		if s.Kind == StSkip || s.Kind == StLoop {
			return false
		}
	}
	return true
}

// StmtReads returns the variables that a statement reads.
func StmtReads(s Stmt) int {
	if !StmtOk(s) {
		return 0
	}
	switch kindCode(s.Kind)[codeReads] {
	case 'a':
		return bitOf(s.A)
	case 'b':
		return bitOf(s.B)
	case '2':
		return bitOf(s.A) + bitOf(s.B)
	}
	return 0
}

// StmtSets returns the variable that a statement sets, or -1.
func StmtSets(s Stmt) int {
	if !StmtOk(s) || kindCode(s.Kind)[codeSets] != 'a' {
		return -1
	}
	return s.A
}

// ValueAt returns the value of a variable in a state, or -1.
func ValueAt(state int, v int) int {
	if !within(state, 0, States-1) || !varOk(v) {
		return -1
	}
	return state / placeOf(v) % Values
}

// WithValue returns a state with another value of a variable, or -1.
func WithValue(state int, v int, value int) int {
	old := ValueAt(state, v)
	if old < 0 || !valueOk(value) {
		return -1
	}
	return state + (value-old)*placeOf(v)
}

// CountDraws returns how many draws the unrolled program has, or -1.
func CountDraws(p []Stmt) int {
	list, ok := Unrolled(p)
	if !ok {
		return -1
	}
	many := 0
	for _, s := range list {
		if isDraw(s) {
			many++
		}
	}
	return many
}

// kindCode returns the bytes of a kind, which must be one.
func kindCode(kind int) string {
	from := kind * codeSize
	return kindCodes[from : from+codeSize]
}

// fieldOk reports whether n may stand where the byte of a code is, in a
// statement with the given A.
func fieldOk(code byte, n int, a int) bool {
	switch code {
	case 'v':
		return varOk(n)
	case 'o':
		return varOk(n) && n != a
	case 'p':
		return n == -1 || varOk(n)
	case 'c':
		return valueOk(n)
	case 'k':
		return within(n, 1, MaxSteps)
	case 'm':
		return within(n, 1, MaxStmts)
	case 't':
		return within(n, 0, MaxTimes)
	}
	return n == 0
}

// weightsOk reports whether numbers are weights.
func weightsOk(w [3]int) bool {
	some := false
	for _, n := range w {
		if !within(n, 0, MaxWeight) {
			return false
		}
		some = some || n > 0
	}
	return some
}

// stmtsOk reports whether all are statements, also those that a loop does no times.
func stmtsOk(p []Stmt) bool {
	for _, s := range p {
		if !StmtOk(s) {
			return false
		}
	}
	return true
}

// bodyOk reports whether what is behind a loop begins with as many statements, none a loop.
func bodyOk(rest []Stmt, many int) bool {
	if len(rest) < many {
		return false
	}
	for _, s := range rest[:many] {
		if s.Kind == StLoop {
			return false
		}
	}
	return true
}

// bitOf returns 2 to the power of a variable, and 0 for what is none, as the -1 of StSet.
func bitOf(v int) int {
	if !varOk(v) {
		return 0
	}
	return 1 << v
}

// placeOf returns what a variable's value counts in a state; it is never 0, for it divides.
func placeOf(v int) int {
	switch v {
	case 0:
		return 1
	case 1:
		return 3
	case 2:
		return 9
	}
	return 27
}

// hasWeights reports whether a statement, whose kind must be one, is of those with weights.
func hasWeights(s Stmt) bool { return kindCode(s.Kind)[codeW] == 'w' }

func isDraw(s Stmt) bool { return s.Kind == StDraw || s.Kind == StDrawBy }

func varOk(v int) bool { return within(v, 0, Vars-1) }

func valueOk(value int) bool { return within(value, 0, Values-1) }

func within(n int, low int, high int) bool { return low <= n && n <= high }
