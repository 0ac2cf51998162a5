package rules

import (
	"go/ast"
	"go/token"
	"go/types"
	"strings"
	"testing"
)

// isLevel tells whether an expression is, or lies in, a variable at package level.
func (p *checked) isLevel(e ast.Expr) bool {
	for {
		switch x := e.(type) {
		case *ast.ParenExpr:
			e = x.X
		case *ast.IndexExpr:
			e = x.X
		case *ast.SliceExpr:
			e = x.X
		case *ast.SelectorExpr:
			e = x.X
		case *ast.Ident:
			v, ok := p.info.Uses[x].(*types.Var)
			return ok && v.Parent() == p.made.Scope()
		default:
			return false
		}
	}
}

// isWritten tells whether a value at package level is written out: numbers, texts, bools, and structs, arrays, slices of them; or an error of one text.
func (p *checked) isWritten(e ast.Expr) bool {
	if v := p.info.Types[e]; v.Value != nil {
		b, ok := v.Type.Underlying().(*types.Basic)
		return ok && b.Info()&(types.IsFloat|types.IsComplex) == 0
	}
	switch x := e.(type) {
	case *ast.KeyValueExpr:
		return p.isWritten(x.Value)
	case *ast.CompositeLit:
		if _, ok := p.info.Types[e].Type.Underlying().(*types.Map); ok {
			return false
		}
		for _, part := range x.Elts {
			if !p.isWritten(part) {
				return false
			}
		}
		return true
	case *ast.CallExpr:
		return types.ExprString(x.Fun) == "errors.New" && len(x.Args) == 1 && p.info.Types[x.Args[0]].Value != nil
	}
	return false
}

func (p *checked) checkValues(t *testing.T, d *ast.GenDecl) {
	t.Helper()
	for _, s := range d.Specs {
		v := s.(*ast.ValueSpec)
		if len(v.Values) != len(v.Names) {
			t.Errorf("%s: without a value of its own", p.set.Position(v.Pos()))
		}
		for _, e := range v.Values {
			c := p.info.Types[e]
			if b, ok := c.Type.Underlying().(*types.Basic); ok && b.Info()&types.IsString != 0 {
				t.Errorf("%s: a text that is no constant", p.set.Position(e.Pos()))
			}
			if !p.isWritten(e) {
				t.Errorf("%s: a value that is not written out", p.set.Position(e.Pos()))
			}
		}
	}
}

// touched is the expressions that a node assigns to, or takes the address of.
func touched(n ast.Node) []ast.Expr {
	switch x := n.(type) {
	case *ast.AssignStmt:
		return x.Lhs
	case *ast.IncDecStmt:
		return []ast.Expr{x.X}
	case *ast.RangeStmt:
		return []ast.Expr{x.Key, x.Value}
	case *ast.SliceExpr:
		return []ast.Expr{x.X}
	case *ast.UnaryExpr:
		if x.Op == token.AND {
			return []ast.Expr{x.X}
		}
	}
	return nil
}

func (p *checked) checkNode(t *testing.T, n ast.Node) {
	t.Helper()
	for _, e := range touched(n) {
		if p.isLevel(e) {
			t.Errorf("%s: what stands at package level is only read", p.set.Position(e.Pos()))
		}
	}
	if c, ok := n.(*ast.CallExpr); ok {
		if f, ok := c.Fun.(*ast.Ident); ok && (f.Name == "print" || f.Name == "println") {
			t.Errorf("%s: prints", p.set.Position(c.Pos()))
		}
	}
}

// Rules 2, 3a and 3b: what stands at package level is written out, and only read; nothing prints.
func TestPackageLevel(t *testing.T) {
	l := newLoader()
	for _, layer := range strings.Fields(layers) {
		p, err := l.load(layer)
		if err != nil {
			t.Fatal(err)
		}
		for _, f := range p.files {
			for _, d := range f.Decls {
				if g, ok := d.(*ast.GenDecl); ok && g.Tok == token.VAR {
					p.checkValues(t, g)
				}
			}
			ast.Inspect(f, func(n ast.Node) bool {
				p.checkNode(t, n)
				return true
			})
		}
	}
}
