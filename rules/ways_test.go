package rules

import (
	"go/ast"
	"go/importer"
	"go/parser"
	"go/token"
	"go/types"
	"path/filepath"
	"strings"
	"testing"
)

// ways is what the document's section 'Ways' asks of each stage's layers. A stage that is built stands here.
var ways = []struct{ layers, asked string }{
	{"phys disk", "map three-index clear copy"},
	{"insn asm", "map label range-string"},
	{"ptab frame", "range-function closure array"},
	{"tlb slab", "map delete array-compared range-map"},
	{"resv rcu", "label map delete clear range-map"},
	{"runq waitq", "array map delete range-integer"},
	{"space copyio", "array range-function closure range-integer"},
	{"buf wlog", "map delete function-field method-expression"},
	{"inode dirent", "interface-call struct-compared range-function clear three-index copy"},
	{"namec fsop", "map closure delete"},
	{"pipe fdtab", "array copy map delete"},
	{"image proc", "closure map delete three-index"},
	{"pm call", "embedding map function-field method-expression iota variadic"},
	{"kern lin", "function-field method-expression map variadic iota interface interface-call"},
}

// checked is a package with what its names and expressions are.
type checked struct {
	set   *token.FileSet
	info  *types.Info
	files []*ast.File
	made  *types.Package
}

// loader finds the project's packages beside this one, and the library's in their source.
type loader struct {
	set     *token.FileSet
	library types.Importer
	packs   map[string]*checked
}

func newLoader() *loader {
	set := token.NewFileSet()
	return &loader{set: set, library: importer.ForCompiler(set, "source", nil), packs: map[string]*checked{}}
}

func (l *loader) Import(path string) (*types.Package, error) {
	layer, ok := strings.CutPrefix(path, "parapet/")
	if !ok {
		return l.library.Import(path)
	}
	p, err := l.load(layer)
	if err != nil {
		return nil, err
	}
	return p.made, nil
}

func (l *loader) load(layer string) (*checked, error) {
	if p := l.packs[layer]; p != nil {
		return p, nil
	}
	p := &checked{set: l.set, info: &types.Info{Types: map[ast.Expr]types.TypeAndValue{}, Uses: map[*ast.Ident]types.Object{}, Selections: map[*ast.SelectorExpr]*types.Selection{}}}
	paths, err := filepath.Glob(filepath.Join("..", layer, "*.go"))
	if err != nil {
		return nil, err
	}
	for _, path := range paths {
		if strings.HasSuffix(path, "_test.go") {
			continue
		}
		f, err := parser.ParseFile(l.set, path, nil, 0)
		if err != nil {
			return nil, err
		}
		p.files = append(p.files, f)
	}
	c := types.Config{Importer: l}
	p.made, err = c.Check("parapet/"+layer, l.set, p.files, p.info)
	l.packs[layer] = p
	return p, err
}

// way is the word for what a node leans on, if it is one that a stage asks for.
func (p *checked) way(n ast.Node) string {
	switch x := n.(type) {
	case *ast.MapType:
		return "map"
	case *ast.LabeledStmt:
		return "label"
	case *ast.SliceExpr:
		if x.Slice3 {
			return "three-index"
		}
	case *ast.ArrayType:
		if x.Len != nil {
			return "array"
		}
	case *ast.FuncLit:
		return "closure"
	case *ast.Ident:
		if x.Name == "iota" {
			return "iota"
		}
	case *ast.Ellipsis:
		if x.Elt != nil {
			return "variadic"
		}
	case *ast.InterfaceType:
		if x.Methods.NumFields() > 0 {
			return "interface"
		}
	case *ast.StructType:
		return p.fields(x)
	case *ast.SelectorExpr:
		return selected(p.info.Selections[x])
	case *ast.RangeStmt:
		return p.ranged(x.X)
	case *ast.BinaryExpr:
		return p.compared(x.X)
	case *ast.CallExpr:
		if f, ok := x.Fun.(*ast.Ident); ok {
			return f.Name
		}
	}
	return ""
}

// fields is the word for what stands in a struct.
func (p *checked) fields(x *ast.StructType) string {
	for _, f := range x.Fields.List {
		if len(f.Names) == 0 {
			return "embedding"
		}
		if _, ok := p.info.Types[f.Type].Type.Underlying().(*types.Signature); ok {
			return "function-field"
		}
	}
	return ""
}

// selected is the word for what stands behind a dot.
func selected(s *types.Selection) string {
	switch {
	case s == nil:
		return ""
	case s.Kind() == types.MethodExpr:
		return "method-expression"
	case s.Kind() == types.MethodVal && types.IsInterface(s.Recv()):
		return "interface-call"
	}
	return ""
}

// compared is the word for what is held against something else.
func (p *checked) compared(e ast.Expr) string {
	switch p.info.Types[e].Type.Underlying().(type) {
	case *types.Array:
		return "array-compared"
	case *types.Struct:
		return "struct-compared"
	}
	return ""
}

// ranged is the word for what is ranged over.
func (p *checked) ranged(e ast.Expr) string {
	switch t := p.info.Types[e].Type.Underlying().(type) {
	case *types.Signature:
		return "range-function"
	case *types.Map:
		return "range-map"
	case *types.Basic:
		if t.Info()&types.IsString != 0 {
			return "range-string"
		}
		return "range-integer"
	}
	return ""
}

func TestStagesLeanOnTheirWays(t *testing.T) {
	l := newLoader()
	for _, stage := range ways {
		has := map[string]bool{}
		for _, layer := range strings.Fields(stage.layers) {
			p, err := l.load(layer)
			if err != nil {
				t.Fatal(err)
			}
			for _, f := range p.files {
				ast.Inspect(f, func(n ast.Node) bool {
					has[p.way(n)] = true
					return true
				})
			}
		}
		for _, w := range strings.Fields(stage.asked) {
			if !has[w] {
				t.Errorf("%s: nothing of %s", stage.layers, w)
			}
		}
	}
}
