// Package rules tests what holds for all packages: the words they share, and the language they are written in.
package rules

import (
	"bytes"
	"go/ast"
	"go/format"
	"go/parser"
	"go/token"
	"os"
	"path/filepath"
	"slices"
	"strconv"
	"strings"
	"testing"

	"logbook/api"
)

func TestNumbersOfErrors(t *testing.T) {
	for _, c := range []struct {
		have api.Errno
		want int
	}{
		{api.OK, 0}, {api.ErrArg, 1}, {api.ErrNil, 3}, {api.ErrNone, 6}, {api.ErrTwice, 7},
		{api.ErrState, 8}, {api.ErrSpace, 20}, {api.ErrFile, 21}, {api.ErrBig, 22},
		{api.ErrName, 23}, {api.ErrSeq, 24}, {api.ErrRead, 25}, {api.ErrDead, 26},
		{api.ErrBad, 27}, {api.ErrCursor, 28}, {api.ErrMatch, 29},
	} {
		if int(c.have) != c.want {
			t.Error(c.have, "is not", c.want)
		}
	}
}

func TestLimits(t *testing.T) {
	have := []int{api.Sector, api.MaxField, api.MaxItem, api.MaxItems, api.MaxEntry, api.MaxBytes, api.MaxTerms}
	if want := []int{64, 64, 1024, 64, 8192, 1048576, 16}; !slices.Equal(have, want) {
		t.Error(have, want)
	}
}

// layers are the packages, from the lowest one on, each with those that it may call beside api.
var layers = []struct{ name, calls string }{
	{"api", ""}, {"le", ""}, {"mix", "le"}, {"crc", ""}, {"item", ""}, {"sector", ""},
	{"file", "sector"}, {"dir", ""}, {"vdisk", "sector file dir"}, {"obj", "le"},
	{"head", "le crc"}, {"slot", "le crc head"}, {"image", "le crc obj head"},
	{"table", "mix obj image"}, {"chain", "obj image table"},
	{"data", "item obj image table chain"},
	{"entry", "item obj head image table chain data"}, {"scan", "obj"},
	{"clip", "le crc obj head slot image scan"},
	{"verify", "mix crc item obj head slot image table chain scan clip"},
	{"jfile", "crc vdisk obj head slot image entry clip"},
	{"stamp", ""}, {"name", ""}, {"policy", ""},
	{"journal", "crc item vdisk head slot entry jfile stamp name policy"},
	{"merge", ""}, {"expr", "item"}, {"walk", "item head image chain data expr"},
	{"view", "item obj image data entry scan merge expr walk"}, {"cursor", "name"},
	{"query", "entry journal expr view cursor"}, {"quote", ""},
	{"export", "le item name cursor"}, {"json", "item"}, {"civil", "export"},
	{"since", "export civil"}, {"syslog", "export"}, {"stream", ""}, {"rate", ""},
	{"pattern", ""}, {"format", "item name export civil"}, {"stats", "item"},
	{"pack", "le"}, {"window", "vdisk"}, {"digest", ""}, {"seal", "le digest"},
	{"op", "quote export"},
	{"world", "crc vdisk entry verify journal view cursor query quote export json format stats op"},
	{"desk", "journal export op world"},
}

// library is what may be imported of the language's library.
const library = "bytes cmp container/heap errors iter maps math math/bits slices sort strconv strings " +
	"sync sync/atomic unicode unicode/utf8"

// longest is how many lines a function has at most.
const longest = 60

// eachFile goes through all files of the layers that are part of the program.
func eachFile(t *testing.T, do func(layer int, path string, text []byte)) {
	t.Helper()
	for i, layer := range layers {
		dir := filepath.Join("..", layer.name)
		l, err := os.ReadDir(dir)
		if err != nil {
			t.Fatal(err)
		}
		for _, f := range l {
			if strings.HasSuffix(f.Name(), "_test.go") {
				continue
			}
			path := filepath.Join(dir, f.Name())
			text, err := os.ReadFile(path)
			if err != nil {
				t.Fatal(err)
			}
			do(i, path, text)
		}
	}
}

func parse(t *testing.T, path string, text []byte) (*token.FileSet, *ast.File) {
	t.Helper()
	set := token.NewFileSet()
	f, err := parser.ParseFile(set, path, text, parser.ParseComments)
	if err != nil {
		t.Fatal(err)
	}
	return set, f
}

func TestImports(t *testing.T) {
	eachFile(t, func(layer int, path string, text []byte) {
		may := append(strings.Fields(library), "logbook/api")
		for _, called := range strings.Fields(layers[layer].calls) {
			may = append(may, "logbook/"+called)
		}
		_, f := parse(t, path, text)
		for _, spec := range f.Imports {
			name, err := strconv.Unquote(spec.Path.Value)
			if err != nil || !slices.Contains(may, name) {
				t.Error(path, "imports", name)
			}
		}
	})
}

func TestFilesAreGoAlone(t *testing.T) {
	eachFile(t, func(_ int, path string, text []byte) {
		if filepath.Ext(path) != ".go" {
			t.Error(path, "is no Go file")
		}
		for line := range bytes.Lines(text) {
			if bytes.HasPrefix(line, []byte("//go:")) || bytes.HasPrefix(line, []byte("// +build")) {
				t.Errorf("%s has the line %s", path, line)
			}
		}
	})
}

func TestFunctionsAreShort(t *testing.T) {
	eachFile(t, func(_ int, path string, text []byte) {
		set, f := parse(t, path, text)
		for _, d := range f.Decls {
			if fn, ok := d.(*ast.FuncDecl); ok {
				if n := set.Position(fn.End()).Line - set.Position(fn.Pos()).Line + 1; n > longest {
					t.Error(path, fn.Name.Name, "has", n, "lines")
				}
			}
		}
	})
}

func TestLayout(t *testing.T) {
	eachFile(t, func(_ int, path string, text []byte) {
		want, err := format.Source(text)
		if err != nil || !bytes.Equal(text, want) {
			t.Error(path, "is not laid out by gofmt", err)
		}
	})
}
