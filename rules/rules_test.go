package rules

import (
	"bytes"
	"go/ast"
	"go/format"
	"go/parser"
	"go/token"
	"io/fs"
	"os"
	"path/filepath"
	"slices"
	"strings"
	"testing"
)

// library is what the program may import beside its own packages.
const library = " bytes cmp container/heap errors iter maps math math/bits slices sort strconv strings sync sync/atomic unicode unicode/utf8 "

// calls is, of each layer, which layers it may call; api and fours may be called by all.
var calls = map[string]string{
	"api": "", "strand": "", "graph": "strand", "perm": "graph", "walk": "graph",
	"low": "graph walk", "blocks": "graph walk low", "faces": "graph walk", "bridge": "graph",
	"embed": "graph walk low bridge", "kura": "graph low embed", "planar": "graph low faces embed kura",
	"links": "", "pair": "links", "split": "links pair", "spqr": "links pair split",
	"ring": "", "rigid": "ring", "part": "embed links spqr rigid", "limb": "links spqr part",
	"bough": "graph walk blocks limb", "canon": "graph perm walk bough", "decode": "graph walk canon",
	"iso": "graph perm canon", "auto": "graph perm canon", "catalogue": "canon decode",
	"player":  "graph perm walk low faces kura planar iso auto catalogue",
	"samples": "", "fours": "",
}

// sources are the paths of the program's own files, without tests.
func sources(t *testing.T) []string {
	var out []string
	err := filepath.WalkDir("..", func(path string, d fs.DirEntry, err error) error {
		if err != nil {
			return err
		}
		if d.IsDir() && (d.Name() == "sharedtests" || d.Name() == ".git") {
			return filepath.SkipDir
		}
		if strings.HasSuffix(path, ".go") && !strings.HasSuffix(path, "_test.go") {
			out = append(out, path)
		}
		return nil
	})
	if err != nil || len(out) == 0 {
		t.Fatal(len(out), err)
	}
	return out
}

func TestRules(t *testing.T) {
	for _, path := range sources(t) {
		text, err := os.ReadFile(path)
		if err != nil {
			t.Fatal(err)
		}
		if neat, err := format.Source(text); err != nil || !bytes.Equal(neat, text) {
			t.Errorf("%s: not in gofmt's layout: %v", path, err)
		}
		if bytes.Contains(text, []byte("//go:")) {
			t.Errorf("%s: a //go: line", path)
		}
		fset := token.NewFileSet()
		file, err := parser.ParseFile(fset, path, text, 0)
		if err != nil {
			t.Fatal(err)
		}
		checkImports(t, path, file)
		checkLengths(t, path, fset, file)
	}
}

func checkImports(t *testing.T, path string, file *ast.File) {
	layer := filepath.Base(filepath.Dir(path))
	below, known := calls[layer]
	if !known {
		t.Errorf("%s: no such package in the map", path)
	}
	for _, im := range file.Imports {
		name := strings.Trim(im.Path.Value, `"`)
		own, ok := strings.CutPrefix(name, "fretwork/")
		if ok && own != "api" && own != "fours" && !slices.Contains(strings.Fields(below), own) {
			t.Errorf("%s calls %s", path, own)
		}
		if !ok && !strings.Contains(library, " "+name+" ") {
			t.Errorf("%s imports %s", path, name)
		}
	}
}

func checkLengths(t *testing.T, path string, fset *token.FileSet, file *ast.File) {
	for _, d := range file.Decls {
		f, ok := d.(*ast.FuncDecl)
		if ok && fset.Position(f.End()).Line-fset.Position(f.Pos()).Line >= 60 {
			t.Errorf("%s: %s is too long", path, f.Name.Name)
		}
	}
}
