package ways

import (
	"go/parser"
	"go/token"
	"path/filepath"
	"strconv"
	"strings"
	"testing"
)

// What the program may import, besides its own packages.
const library = " bytes cmp container/heap errors iter maps math math/bits slices sort strconv strings sync sync/atomic unicode unicode/utf8 "

func TestLanguage(t *testing.T) {
	files, err := filepath.Glob("../*/*.go")
	if err != nil || len(files) == 0 {
		t.Fatal("no files")
	}
	for _, f := range files {
		if strings.HasSuffix(f, "_test.go") || strings.Contains(f, "sharedtests") {
			continue
		}
		set := token.NewFileSet()
		a, err := parser.ParseFile(set, f, nil, parser.ImportsOnly)
		if err != nil {
			t.Fatal(err)
		}
		for _, i := range a.Imports {
			p, _ := strconv.Unquote(i.Path.Value)
			if !strings.HasPrefix(p, "cubby/") && !strings.Contains(library, " "+p+" ") {
				t.Errorf("%s imports %s", f, p)
			}
		}
	}
}
