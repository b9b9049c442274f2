// Package rules holds the program's source against the rules by which it is written.
package rules

import (
	"bytes"
	"go/ast"
	"go/format"
	"go/parser"
	"go/token"
	"io/fs"
	"os"
	"path/filepath"
	"slices"
	"strconv"
	"strings"
	"testing"
)

const (
	root        = ".."
	module      = "descant"
	longestFunc = 60
)

// layers are the packages, the lowest one first: each may call those ahead of it alone.
func layers() []string {
	return strings.Fields("api num bitio crc field pcm rice runs even part window levin coef predict search step shape loop joint sub base corr head block rate wav tags info tail file mend encode decode convert verify stream script")
}

// library is what may be imported beside the project's packages.
func library() []string {
	return strings.Fields("bytes cmp container/heap errors iter maps math math/bits slices sort strconv strings sync sync/atomic unicode unicode/utf8")
}

// source is a Go file of the project.
type source struct {
	path, folder string
	text         []byte
	set          *token.FileSet
	tree         *ast.File
}

// isForeign tells whether a folder is none of the project's packages, but may be laid beside them.
func isForeign(name string) bool {
	return strings.HasPrefix(name, ".") || strings.HasPrefix(name, module) || slices.Contains([]string{"sharedtests", "form", "try"}, name)
}

// sources are the project's Go files, with tests or without.
func sources(t *testing.T, tests bool) []source {
	t.Helper()
	var l []source
	err := filepath.WalkDir(root, func(path string, d fs.DirEntry, err error) error {
		switch name := d.Name(); {
		case err != nil:
			return err
		case d.IsDir() && path != root && isForeign(name):
			return fs.SkipDir
		case filepath.Ext(name) != ".go" || strings.HasSuffix(name, "_test.go") && !tests:
			return nil
		}
		x := source{path: path, folder: filepath.Base(filepath.Dir(path)), set: token.NewFileSet()}
		if x.text, err = os.ReadFile(path); err != nil {
			return err
		}
		x.tree, err = parser.ParseFile(x.set, path, x.text, parser.ParseComments)
		l = append(l, x)
		return err
	})
	if err != nil || len(l) == 0 {
		t.Fatal(len(l), err)
	}
	return l
}

func TestEveryLayerIsThere(t *testing.T) {
	var folders []string
	for _, x := range sources(t, false) {
		folders = append(folders, x.folder)
		if x.tree.Name.Name != x.folder {
			t.Errorf("%s: package %s", x.path, x.tree.Name.Name)
		}
	}
	for _, l := range layers() {
		if !slices.Contains(folders, l) {
			t.Errorf("no package %s", l)
		}
	}
}

func TestImports(t *testing.T) {
	for _, x := range sources(t, false) {
		below := layers()[:max(0, slices.Index(layers(), x.folder))]
		for _, i := range x.tree.Imports {
			path, _ := strconv.Unquote(i.Path.Value)
			own, isOwn := strings.CutPrefix(path, module+"/")
			switch {
			case isOwn && slices.Contains(layers(), own) && !slices.Contains(below, own):
				t.Errorf("%s: %s is not below it", x.path, own)
			case !isOwn && !slices.Contains(library(), path):
				t.Errorf("%s: imports %s", x.path, path)
			}
		}
	}
}

func TestNoDirectives(t *testing.T) {
	for _, x := range sources(t, false) {
		for _, g := range x.tree.Comments {
			for _, c := range g.List {
				if strings.HasPrefix(c.Text, "//go:") || strings.HasPrefix(c.Text, "// +build") {
					t.Errorf("%s: %s", x.path, c.Text)
				}
			}
		}
	}
}

func TestLayout(t *testing.T) {
	for _, x := range sources(t, true) {
		if text, err := format.Source(x.text); err != nil || !bytes.Equal(text, x.text) {
			t.Errorf("%s: not in gofmt's layout (%v)", x.path, err)
		}
	}
}

func TestFunctions(t *testing.T) {
	for _, x := range sources(t, false) {
		for _, d := range x.tree.Decls {
			f, ok := d.(*ast.FuncDecl)
			if !ok {
				continue
			}
			if lines := x.set.Position(f.End()).Line - x.set.Position(f.Pos()).Line + 1; lines > longestFunc {
				t.Errorf("%s: %s has %d lines", x.path, f.Name.Name, lines)
			}
			if f.Recv == nil && f.Name.Name == "init" {
				t.Errorf("%s: something is made when the program starts", x.path)
			}
		}
	}
}
