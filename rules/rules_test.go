// Package rules asks of all Go files of the program, but for tests, whether they keep to the rules of its language that can be read off a file.
package rules

import (
	"go/ast"
	"go/parser"
	"go/token"
	"path/filepath"
	"slices"
	"strconv"
	"strings"
	"testing"
)

// layers, the lowest first: a layer calls those below it.
var layers = strings.Fields("ints tape tree lex parse show types mem eval span safe gen ir run lower fold prop cse live dead flow inline alloc code vm oracle reduce farm")

var library = strings.Fields("bytes cmp container/heap errors iter maps math math/bits slices sort strconv strings sync sync/atomic unicode unicode/utf8")

const longest = 65 // lines of a function: at most some 60

type file struct {
	path   string
	folder string
	set    *token.FileSet
	tree   *ast.File
}

// laidBeside: folders of these names are none of the program's own; what stands in them may be all of Go.
func laidBeside(folder string) bool {
	return folder == "sharedtests" || folder == "form" || folder == "try" || strings.HasPrefix(folder, "burin")
}

func program(t *testing.T) []file {
	t.Helper()
	paths, err := filepath.Glob("../*/*.go")
	if err != nil {
		t.Fatal(err)
	}
	var list []file
	for _, path := range paths {
		folder := filepath.Base(filepath.Dir(path))
		if strings.HasSuffix(path, "_test.go") || laidBeside(folder) {
			continue
		}
		set := token.NewFileSet()
		tree, err := parser.ParseFile(set, path, nil, parser.ParseComments)
		if err != nil {
			t.Fatal(err)
		}
		list = append(list, file{path, folder, set, tree})
	}
	return list
}

func TestEachLayerIsThere(t *testing.T) {
	seen := map[string]bool{}
	for _, f := range program(t) {
		seen[f.tree.Name.Name] = f.tree.Name.Name == f.folder
	}
	for _, name := range append([]string{"api"}, layers...) {
		if !seen[name] {
			t.Errorf("no package %s", name)
		}
	}
}

func TestImports(t *testing.T) {
	for _, f := range program(t) {
		own := slices.Index(layers, f.folder)
		for _, spec := range f.tree.Imports {
			path, err := strconv.Unquote(spec.Path.Value)
			if err != nil {
				t.Fatal(err)
			}
			name, project := strings.CutPrefix(path, "burin/")
			if !project && !slices.Contains(library, path) {
				t.Errorf("%s imports %s", f.path, path)
			}
			if below := slices.Index(layers, name); project && own >= 0 && below >= own {
				t.Errorf("%s imports %s, which is not below it", f.path, path)
			}
		}
	}
}

func TestRemarks(t *testing.T) {
	for _, f := range program(t) {
		for _, group := range f.tree.Comments {
			for _, c := range group.List {
				if strings.HasPrefix(c.Text, "//go:") || strings.HasPrefix(c.Text, "// +build") {
					t.Errorf("%s: %s", f.path, c.Text)
				}
			}
		}
	}
}

func TestFunctionsAreShort(t *testing.T) {
	for _, f := range program(t) {
		for _, d := range f.tree.Decls {
			fn, ok := d.(*ast.FuncDecl)
			if !ok {
				continue
			}
			if lines := f.set.Position(fn.End()).Line - f.set.Position(fn.Pos()).Line + 1; lines > longest {
				t.Errorf("%s: %s has %d lines", f.path, fn.Name.Name, lines)
			}
		}
	}
}
