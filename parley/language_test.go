package parley_test

import (
	"bytes"
	"go/format"
	"go/parser"
	"go/token"
	"io/fs"
	"os"
	"path/filepath"
	"strconv"
	"strings"
	"testing"
)

const allowedImports = " bytes cmp container/heap errors iter maps math math/big math/bits slices sort strconv strings sync sync/atomic unicode unicode/utf8 "

// programFiles lists the program's Go files, without its tests and without the
// tests that .ci/run lays beside it.
func programFiles(t *testing.T) []string {
	var files []string
	err := filepath.WalkDir("..", func(path string, entry fs.DirEntry, err error) error {
		if err != nil {
			return err
		}
		name := entry.Name()
		if entry.IsDir() && (name == "sharedtests" || name != ".." && strings.HasPrefix(name, ".")) {
			return filepath.SkipDir
		}
		if strings.HasSuffix(name, ".go") && !strings.HasSuffix(name, "_test.go") {
			files = append(files, path)
		}
		return nil
	})
	if err != nil {
		t.Fatal(err)
	}
	if len(files) == 0 {
		t.Fatal("no files of the program were found")
	}
	return files
}

func TestProgramKeepsToTheLanguage(t *testing.T) {
	for _, path := range programFiles(t) {
		source, err := os.ReadFile(path)
		if err != nil {
			t.Fatal(err)
		}
		file, err := parser.ParseFile(token.NewFileSet(), path, source, parser.ParseComments)
		if err != nil {
			t.Fatal(err)
		}
		for _, spec := range file.Imports {
			name, _ := strconv.Unquote(spec.Path.Value)
			if !strings.HasPrefix(name, "parley/") && !strings.Contains(allowedImports, " "+name+" ") {
				t.Errorf("%s imports %s", path, name)
			}
		}
		for _, group := range file.Comments {
			for _, comment := range group.List {
				if strings.HasPrefix(comment.Text, "//go:") || strings.HasPrefix(comment.Text, "// +build") {
					t.Errorf("%s has the line %s", path, comment.Text)
				}
			}
		}
		if laidOut, err := format.Source(source); err != nil || !bytes.Equal(laidOut, source) {
			t.Errorf("%s is not in gofmt's layout", path)
		}
	}
}
