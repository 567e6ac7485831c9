// Package rules has no code of the program: its tests hold every layer against the document's map and the rules of the language.
package rules

import (
	"bytes"
	"go/ast"
	"go/format"
	"go/parser"
	"go/token"
	"os"
	"path/filepath"
	"slices"
	"strconv"
	"strings"
	"testing"
)

const maxLines = 60

// layers are the map's packages in its order, each with those it may call beside api.
var layers = []struct{ name, calls string }{
	{"narrow", ""}, {"codec", ""}, {"sum", "codec"}, {"dev", ""}, {"bag", ""}, {"shape", "codec sum"},
	{"txn", "codec sum"}, {"journal", "codec sum txn"}, {"mend", "dev shape txn journal"}, {"cache", ""},
	{"bitmap", ""}, {"inode", "codec"}, {"path", ""}, {"model", "shape inode path"},
	{"file", "shape bitmap inode"}, {"dir", "path file"}, {"fs", "shape path file dir"}, {"fsck", "shape inode path file"},
	{"fd", "path"}, {"replog", "codec"}, {"view", "codec sum"}, {"table", ""}, {"msg", "codec sum replog"}, {"vsr", "*"},
	{"chunk", "sum"}, {"trace", "model replog shape"}, {"cluster", "*"}, {"desk", "cluster"},
}

const library = "bytes cmp container/heap errors iter maps math math/bits slices sort strconv strings sync sync/atomic unicode unicode/utf8"

// allowed are the imports that the layer at that place of the map may have.
func allowed(at int) []string {
	out := append(strings.Fields(library), "cartulary/api")
	for _, c := range strings.Fields(layers[at].calls) {
		out = append(out, "cartulary/"+c)
	}
	if layers[at].calls == "*" {
		for _, l := range layers[:at] {
			out = append(out, "cartulary/"+l.name)
		}
	}
	return out
}

func TestLayers(t *testing.T) {
	for i, l := range layers {
		names, _ := filepath.Glob(filepath.Join("..", l.name, "*.go"))
		found := false
		for _, name := range names {
			if !strings.HasSuffix(name, "_test.go") {
				found = true
				checkFile(t, name, allowed(i))
			}
		}
		if !found {
			t.Errorf("%s: the layer has no Go file", l.name)
		}
	}
}

func checkFile(t *testing.T, name string, imports []string) {
	t.Helper()
	text, err := os.ReadFile(name)
	if err != nil {
		t.Fatal(err)
	}
	if laid, err := format.Source(text); err != nil || !bytes.Equal(laid, text) {
		t.Errorf("%s: not in gofmt's layout (%v)", name, err)
	}
	set := token.NewFileSet()
	file, err := parser.ParseFile(set, name, text, parser.ParseComments)
	if err != nil {
		t.Fatal(err)
	}
	for _, s := range file.Imports {
		if p, _ := strconv.Unquote(s.Path.Value); !slices.Contains(imports, p) {
			t.Errorf("%s: imports %s", name, p)
		}
	}
	for _, g := range file.Comments {
		for _, c := range g.List {
			if strings.HasPrefix(c.Text, "//go:") || strings.HasPrefix(c.Text, "// +build") {
				t.Errorf("%s: has the line %s", name, c.Text)
			}
		}
	}
	for _, d := range file.Decls {
		f, ok := d.(*ast.FuncDecl)
		if ok && set.Position(f.End()).Line-set.Position(f.Pos()).Line >= maxLines {
			t.Errorf("%s: %s has more than %d lines", name, f.Name.Name, maxLines)
		}
	}
}
