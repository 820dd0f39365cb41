package ways

import (
	"go/ast"
	"go/parser"
	"go/token"
	"path/filepath"
	"strconv"
	"strings"
	"testing"
)

// What the program may import, besides its own packages.
const library = " bytes cmp container/heap errors iter maps math math/bits slices sort strconv strings sync sync/atomic unicode unicode/utf8 "

const longest = 60 // lines of a function

func TestLanguage(t *testing.T) {
	files, err := filepath.Glob("../*/*.go")
	if err != nil || len(files) == 0 {
		t.Fatal("no files")
	}
	for _, f := range files {
		if strings.HasSuffix(f, "_test.go") || strings.Contains(f, "sharedtests") {
			continue
		}
		set := token.NewFileSet()
		a, err := parser.ParseFile(set, f, nil, 0)
		if err != nil {
			t.Fatal(err)
		}
		for _, i := range a.Imports {
			p, _ := strconv.Unquote(i.Path.Value)
			if !strings.HasPrefix(p, "cubby/") && !strings.Contains(library, " "+p+" ") {
				t.Errorf("%s imports %s", f, p)
			}
		}
		for _, d := range a.Decls {
			switch x := d.(type) {
			case *ast.FuncDecl:
				if n := set.Position(x.End()).Line - set.Position(x.Pos()).Line + 1; n > longest {
					t.Errorf("%s: %s has %d lines", f, x.Name.Name, n)
				}
			case *ast.GenDecl:
				if x.Tok == token.VAR {
					t.Errorf("%s: a variable at package level", f)
				}
			}
		}
	}
}
