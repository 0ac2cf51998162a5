// Package rules holds the layers' code against what can be told of the language's rules from its text. It has tests alone.
package rules

import (
	"bytes"
	"go/ast"
	"go/format"
	"go/parser"
	"go/token"
	"os"
	"path/filepath"
	"strconv"
	"strings"
	"testing"
)

const (
	layers  = "phys disk insn asm ptab frame tlb slab resv rcu runq waitq space copyio buf wlog inode dirent namec fsop pipe fdtab image proc pm call kern lin"
	library = " bytes cmp container/heap errors iter maps math math/bits slices sort strconv strings sync sync/atomic unicode unicode/utf8 "
	longest = 60
)

// sources is the Go files of a layer that are no tests; that it has none but Go files is held, too.
func sources(t *testing.T, layer string) []string {
	t.Helper()
	l, err := os.ReadDir(filepath.Join("..", layer))
	if err != nil {
		t.Fatal(err)
	}
	var out []string
	for _, f := range l {
		if !strings.HasSuffix(f.Name(), ".go") {
			t.Errorf("%s: a file that is no Go: %s", layer, f.Name())
		} else if !strings.HasSuffix(f.Name(), "_test.go") {
			out = append(out, filepath.Join("..", layer, f.Name()))
		}
	}
	if len(out) == 0 {
		t.Errorf("%s: no package", layer)
	}
	return out
}

func checkImports(t *testing.T, path string, f *ast.File) {
	t.Helper()
	for _, i := range f.Imports {
		p, _ := strconv.Unquote(i.Path.Value)
		if !strings.HasPrefix(p, "parapet/") && !strings.Contains(library, " "+p+" ") {
			t.Errorf("%s imports %s", path, p)
		}
	}
}

func checkLengths(t *testing.T, path string, set *token.FileSet, f *ast.File) {
	t.Helper()
	for _, d := range f.Decls {
		if x, ok := d.(*ast.FuncDecl); ok {
			if n := set.Position(x.End()).Line - set.Position(x.Pos()).Line + 1; n > longest {
				t.Errorf("%s: %s has %d lines", path, x.Name.Name, n)
			}
		}
	}
}

func TestLayersKeepToTheLanguage(t *testing.T) {
	for _, layer := range strings.Fields(layers) {
		for _, path := range sources(t, layer) {
			src, err := os.ReadFile(path)
			if err != nil {
				t.Fatal(err)
			}
			set := token.NewFileSet()
			f, err := parser.ParseFile(set, path, src, parser.ParseComments)
			if err != nil {
				t.Fatal(err)
			}
			checkImports(t, path, f)
			checkLengths(t, path, set, f)
			if neat, err := format.Source(src); err != nil || !bytes.Equal(neat, src) {
				t.Errorf("%s is not laid out as gofmt does", path)
			}
			if bytes.Contains(src, []byte("\n//go:")) || bytes.HasPrefix(src, []byte("//go:")) {
				t.Errorf("%s has a line //go:", path)
			}
		}
	}
}
