package tests

import (
	"go/ast"
	"go/parser"
	"go/token"
	"go/types"
	"path/filepath"
	"testing"
)

// code is the package impl as it is written, and what its names and expressions are.
type code struct {
	places *token.FileSet
	files  []*ast.File
	info   types.Info
	called map[*ast.Ident]bool
}

// readCode fails on any import, for it gives the checker no way to find one.
func readCode(t *testing.T) *code {
	names, err := filepath.Glob("../impl/*.go")
	if err != nil || len(names) != 22 {
		t.Fatalf("impl has %d files, %v", len(names), err)
	}
	c := &code{places: token.NewFileSet(), called: map[*ast.Ident]bool{}}
	for _, name := range names {
		file, err := parser.ParseFile(c.places, name, nil, 0)
		if err != nil {
			t.Fatal(err)
		}
		c.files = append(c.files, file)
	}
	c.info = types.Info{Uses: map[*ast.Ident]types.Object{}, Types: map[ast.Expr]types.TypeAndValue{}}
	if _, err := new(types.Config).Check("impl", c.places, c.files, &c.info); err != nil {
		t.Fatal(err)
	}
	return c
}

func TestForm(t *testing.T) {
	c := readCode(t)
	for _, file := range c.files {
		for _, d := range file.Decls {
			if g, ok := d.(*ast.GenDecl); ok && g.Tok == token.VAR {
				t.Errorf("%s: a variable of the package", c.places.Position(g.Pos()))
			}
		}
		ast.Inspect(file, func(n ast.Node) bool {
			if fault := c.fault(n); fault != "" {
				t.Errorf("%s: %s", c.places.Position(n.Pos()), fault)
			}
			return true
		})
	}
}

// fault says what of ../shared/LANGUAGE.md a piece of code is against, or nothing.
// A call is seen before the name of what it calls.
func (c *code) fault(n ast.Node) string {
	switch n := n.(type) {
	case *ast.ImportSpec:
		return "an import"
	case *ast.InterfaceType, *ast.TypeSwitchStmt, *ast.TypeAssertExpr:
		return "an interface"
	case *ast.FuncLit:
		return "a closure"
	case *ast.MapType:
		return "a map"
	case *ast.GoStmt, *ast.ChanType, *ast.SelectStmt, *ast.SendStmt, *ast.DeferStmt:
		return "a goroutine, channel, select or defer"
	case *ast.BranchStmt:
		return pick(n.Tok == token.GOTO, "a goto")
	case *ast.SliceExpr:
		return pick(n.Slice3, "a slice expression with three indexes")
	case *ast.FuncDecl:
		return pick(n.Type.TypeParams != nil || n.Name.Name == "init", "a generic or init")
	case *ast.TypeSpec:
		return pick(n.TypeParams != nil, "a generic")
	case *ast.BinaryExpr:
		return pick(c.isNil(n.X) || c.isNil(n.Y), "a comparison with nil")
	case *ast.AssignStmt:
		return pick(len(n.Lhs) > 1 && !allLocals(n.Lhs), "an assignment of several values to elements or fields")
	case *ast.CallExpr:
		c.markCalled(n.Fun)
	case *ast.Ident:
		return c.nameFault(n)
	}
	return c.floatFault(n)
}

func (c *code) nameFault(n *ast.Ident) string {
	switch object := c.info.Uses[n].(type) {
	case *types.Func:
		return pick(!c.called[n], "a function value")
	case *types.Builtin:
		switch n.Name {
		case "cap", "recover", "panic", "complex", "real", "imag", "print", "println":
			return n.Name
		}
	case *types.TypeName:
		return pick(types.IsInterface(object.Type()), "an interface")
	}
	return c.floatFault(n)
}

func (c *code) markCalled(fun ast.Expr) {
	switch fun := fun.(type) {
	case *ast.Ident:
		c.called[fun] = true
	case *ast.SelectorExpr:
		c.called[fun.Sel] = true
	}
}

// The document asks for no floats anywhere.
func (c *code) floatFault(n ast.Node) string {
	e, ok := n.(ast.Expr)
	if !ok || c.info.Types[e].Type == nil {
		return ""
	}
	basic, ok := c.info.Types[e].Type.Underlying().(*types.Basic)
	return pick(ok && basic.Info()&(types.IsFloat|types.IsComplex) != 0, "a float or complex number")
}

func (c *code) isNil(e ast.Expr) bool {
	return c.info.Types[e].IsNil()
}

func allLocals(list []ast.Expr) bool {
	for _, e := range list {
		if _, ok := e.(*ast.Ident); !ok {
			return false
		}
	}
	return true
}

func pick(is bool, text string) string {
	if is {
		return text
	}
	return ""
}
