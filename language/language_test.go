// Package language tests that the program keeps to shared/LANGUAGE.md, as far as its text shows it.
package language

import (
	"bytes"
	"go/ast"
	"go/format"
	"go/parser"
	"go/token"
	"os"
	"path/filepath"
	"slices"
	"strconv"
	"strings"
	"testing"
)

const root = ".."

// maxLines is the length of a function that rule 9 allows.
const maxLines = 60

var allowed = []string{
	"bytes", "cmp", "container/heap", "errors", "iter", "maps", "math", "math/bits", "slices", "sort", "strconv", "strings",
	"sync", "sync/atomic", "unicode", "unicode/utf8",
}

var layers = []string{"debt", "hide", "stitch", "strap", "kin", "mend", "brand", "mark", "watch", "chest", "saddler"}

type source struct {
	path string
	text []byte
	fset *token.FileSet
	file *ast.File
}

// sources returns the files, without tests, of the layers and of all packages that they import, but api, which is given.
func sources(t *testing.T) []source {
	t.Helper()
	var out []source
	folders := slices.Clone(layers)
	for i := 0; i < len(folders); i++ { // folders grows
		for _, s := range inFolder(t, folders[i]) {
			out = append(out, s)
			for _, name := range imports(s) {
				own, ok := strings.CutPrefix(name, "pommel/")
				if ok && own != "api" && !slices.Contains(folders, own) {
					folders = append(folders, own)
				}
			}
		}
	}
	if len(out) < len(layers) {
		t.Fatalf("%d files", len(out))
	}
	return out
}

func inFolder(t *testing.T, folder string) []source {
	t.Helper()
	paths, err := filepath.Glob(filepath.Join(root, folder, "*"))
	if err != nil {
		t.Fatal(err)
	}
	var out []source
	for _, path := range paths {
		if filepath.Ext(path) != ".go" {
			t.Errorf("%s: a file beside the Go files", path)
		}
		if filepath.Ext(path) != ".go" || strings.HasSuffix(path, "_test.go") {
			continue
		}
		text, err := os.ReadFile(path)
		if err != nil {
			t.Fatal(err)
		}
		s := source{path: path, text: text, fset: token.NewFileSet()}
		if s.file, err = parser.ParseFile(s.fset, path, text, parser.ParseComments); err != nil {
			t.Fatal(err)
		}
		out = append(out, s)
	}
	return out
}

func imports(s source) []string {
	var names []string
	for _, i := range s.file.Imports {
		name, _ := strconv.Unquote(i.Path.Value)
		names = append(names, name)
	}
	return names
}

func TestImports(t *testing.T) {
	for _, s := range sources(t) {
		own := filepath.Base(filepath.Dir(s.path))
		for _, name := range imports(s) {
			part, ours := strings.CutPrefix(name, "pommel/")
			if !ours && !slices.Contains(allowed, name) {
				t.Errorf("%s imports %s", s.path, name)
			}
			if own != "saddler" && slices.Contains(layers, part) {
				t.Errorf("%s imports the layer %s", s.path, part)
			}
		}
	}
}

// TestParts: rule 1 allows some packages only in part.
func TestParts(t *testing.T) {
	for _, s := range sources(t) {
		ast.Inspect(s.file, func(n ast.Node) bool {
			x, ok := n.(*ast.SelectorExpr)
			if !ok {
				return true
			}
			of, ok := x.X.(*ast.Ident)
			if !ok {
				return true
			}
			pulls := of.Name == "iter" && strings.HasPrefix(x.Sel.Name, "Pull")
			if pulls || of.Name == "sync" && !slices.Contains([]string{"Mutex", "RWMutex", "WaitGroup", "Once"}, x.Sel.Name) {
				t.Errorf("%s: %s.%s", s.fset.Position(n.Pos()), of.Name, x.Sel.Name)
			}
			return true
		})
	}
}

// TestRangeFunction: the way of package stitch: the letters of a seam are yielded by a function that is ranged over.
func TestRangeFunction(t *testing.T) {
	yields := map[string]bool{}
	var ranged []string
	for _, s := range inFolder(t, "stitch") {
		ast.Inspect(s.file, func(n ast.Node) bool {
			switch x := n.(type) {
			case *ast.FuncDecl:
				yields[x.Name.Name] = yields[x.Name.Name] || isSequence(x.Type.Results)
			case *ast.RangeStmt:
				if call, ok := x.X.(*ast.CallExpr); ok {
					if f, ok := call.Fun.(*ast.Ident); ok {
						ranged = append(ranged, f.Name)
					}
				}
			}
			return true
		})
	}
	if !slices.ContainsFunc(ranged, func(name string) bool { return yields[name] }) {
		t.Error("no function is ranged over")
	}
}

// isSequence reports whether a function has one result, an iter.Seq or an iter.Seq2.
func isSequence(results *ast.FieldList) bool {
	if results == nil || len(results.List) != 1 {
		return false
	}
	kind := results.List[0].Type
	switch x := kind.(type) {
	case *ast.IndexExpr:
		kind = x.X
	case *ast.IndexListExpr:
		kind = x.X
	}
	x, ok := kind.(*ast.SelectorExpr)
	return ok && strings.HasPrefix(x.Sel.Name, "Seq")
}

// TestStrapWays: the ways of package strap: numbers are counted by ranging over an integer, kinds of search are functions in fields.
func TestStrapWays(t *testing.T) {
	counts, fields := 0, 0
	for _, s := range inFolder(t, "strap") {
		ast.Inspect(s.file, func(n ast.Node) bool {
			switch x := n.(type) {
			case *ast.RangeStmt:
				if sum, ok := x.X.(*ast.BinaryExpr); ok && sum.Op == token.SUB { // what is ranged over is a number, if it is a difference
					counts++
				}
			case *ast.StructType:
				for _, field := range x.Fields.List {
					if _, ok := field.Type.(*ast.FuncType); ok {
						fields++
					}
				}
			}
			return true
		})
	}
	if counts == 0 {
		t.Error("no integer is ranged over")
	}
	if fields == 0 {
		t.Error("no field is a function")
	}
}

// TestKinWays: the ways of package kin: halves are formed by a generic function, three sums are an array that is compared.
func TestKinWays(t *testing.T) {
	generic, compared := false, false
	for _, s := range inFolder(t, "kin") {
		ast.Inspect(s.file, func(n ast.Node) bool {
			switch x := n.(type) {
			case *ast.FuncDecl:
				generic = generic || x.Name.Name == "half" && x.Type.TypeParams != nil
			case *ast.BinaryExpr:
				if list, ok := x.Y.(*ast.CompositeLit); ok && (x.Op == token.EQL || x.Op == token.NEQ) {
					kind, ok := list.Type.(*ast.ArrayType)
					compared = compared || ok && kind.Len != nil
				}
			}
			return true
		})
	}
	if !generic {
		t.Error("no generic function forms halves")
	}
	if !compared {
		t.Error("no array is compared")
	}
}

// TestMendWays: the ways of package mend: sets of jobs are keys of a map, jobs with chances embed plain ones.
func TestMendWays(t *testing.T) {
	keys, deletes, embeds, promoted := false, false, false, false
	for _, s := range inFolder(t, "mend") {
		ast.Inspect(s.file, func(n ast.Node) bool {
			switch x := n.(type) {
			case *ast.MapType:
				key, ok := x.Key.(*ast.Ident)
				keys = keys || ok && key.Name == "set"
			case *ast.CallExpr:
				f, ok := x.Fun.(*ast.Ident)
				deletes = deletes || ok && f.Name == "delete"
			case *ast.StructType:
				embeds = embeds || slices.ContainsFunc(x.Fields.List, func(field *ast.Field) bool {
					of, ok := field.Type.(*ast.SelectorExpr)
					return ok && field.Names == nil && of.Sel.Name == "Job"
				})
			case *ast.SelectorExpr:
				of, ok := x.X.(*ast.Ident)
				promoted = promoted || ok && of.Name == "u" && x.Sel.Name == "Weight" // u is what such jobs are called
			}
			return true
		})
	}
	if !keys || !deletes {
		t.Error("sets are no keys of a map, or are not deleted from it")
	}
	if !embeds || !promoted {
		t.Error("no plain job is embedded, or no field of it is promoted")
	}
}

// TestBrandWays: the ways of package brand: what words do are values of an interface, which a type switch distinguishes.
func TestBrandWays(t *testing.T) {
	methods := map[string]bool{} // the types with the method of the interface
	isInterface := false
	var cases []string
	for _, s := range inFolder(t, "brand") {
		ast.Inspect(s.file, func(n ast.Node) bool {
			switch x := n.(type) {
			case *ast.TypeSpec:
				kind, ok := x.Type.(*ast.InterfaceType)
				isInterface = isInterface || ok && x.Name.Name == "deed" && len(kind.Methods.List) > 0
			case *ast.FuncDecl:
				if x.Recv != nil && x.Name.Name == "from" {
					methods[x.Recv.List[0].Type.(*ast.Ident).Name] = true
				}
			case *ast.TypeSwitchStmt:
				for _, c := range x.Body.List {
					for _, kind := range c.(*ast.CaseClause).List {
						cases = append(cases, kind.(*ast.Ident).Name)
					}
				}
			}
			return true
		})
	}
	if !isInterface {
		t.Error("what words do is no interface")
	}
	if len(methods) < 2 || len(cases) != len(methods) || slices.ContainsFunc(cases, func(name string) bool { return !methods[name] }) {
		t.Errorf("the type switch distinguishes %v, of %v", cases, methods)
	}
}

// TestMarkWays: the ways of package mark: kinds of lengths are numbered with iota; words are written one after the other by a function that takes any number of them.
func TestMarkWays(t *testing.T) {
	numbered, called := false, false
	takesAny := map[string]bool{}
	for _, s := range inFolder(t, "mark") {
		ast.Inspect(s.file, func(n ast.Node) bool {
			switch x := n.(type) {
			case *ast.ValueSpec:
				kind, ok := x.Type.(*ast.Ident)
				numbered = numbered || ok && kind.Name == "kind" && slices.ContainsFunc(x.Values, isIota)
			case *ast.FuncDecl:
				if list := x.Type.Params.List; len(list) > 0 {
					_, ok := list[len(list)-1].Type.(*ast.Ellipsis)
					takesAny[x.Name.Name] = ok
				}
			case *ast.CallExpr:
				f, ok := x.Fun.(*ast.Ident)
				called = called || ok && f.Name == "written"
			}
			return true
		})
	}
	if !numbered {
		t.Error("kinds of lengths are not numbered with iota")
	}
	if !takesAny["written"] || !called {
		t.Error("no function that takes any number of words writes them")
	}
}

func isIota(value ast.Expr) bool {
	name, ok := value.(*ast.Ident)
	return ok && name.Name == "iota"
}

// TestWatchWays: the ways of package watch: what a hand has done is a method value; cuts are collected by ranging over a map.
func TestWatchWays(t *testing.T) {
	isMethod := false
	values := 0 // how often the method is named and not called
	maps := map[string]bool{}
	ranged := false
	for _, s := range inFolder(t, "watch") {
		ast.Inspect(s.file, func(n ast.Node) bool {
			switch x := n.(type) {
			case *ast.FuncDecl:
				isMethod = isMethod || x.Name.Name == "done" && x.Recv != nil
			case *ast.SelectorExpr:
				if x.Sel.Name == "done" {
					values++
				}
			case *ast.CallExpr:
				if f, ok := x.Fun.(*ast.SelectorExpr); ok && f.Sel.Name == "done" {
					values--
				}
			case *ast.AssignStmt:
				name, isName := x.Lhs[0].(*ast.Ident)
				if list, ok := x.Rhs[0].(*ast.CompositeLit); ok && isName && isCutMap(list.Type) {
					maps[name.Name] = true
				}
			case *ast.RangeStmt:
				name, ok := x.X.(*ast.Ident)
				ranged = ranged || ok && maps[name.Name]
			}
			return true
		})
	}
	if !isMethod || values == 0 {
		t.Error("what a hand has done is no method value")
	}
	if !ranged {
		t.Error("no map of cuts is ranged over")
	}
}

func isCutMap(kind ast.Expr) bool {
	m, ok := kind.(*ast.MapType)
	if !ok {
		return false
	}
	key, ok := m.Key.(*ast.Ident)
	return ok && key.Name == "cut"
}

// TestChestWays: the way of package chest: a page that is malformed ends reading by a panic that is recovered in a deferred function literal.
func TestChestWays(t *testing.T) {
	panics, recovers := false, false
	for _, s := range inFolder(t, "chest") {
		ast.Inspect(s.file, func(n ast.Node) bool {
			switch x := n.(type) {
			case *ast.CallExpr:
				panics = panics || isCall(x, "panic")
			case *ast.DeferStmt:
				f, ok := x.Call.Fun.(*ast.FuncLit)
				recovers = recovers || ok && hasCall(f, "recover")
			}
			return true
		})
	}
	if !panics {
		t.Error("no malformed page ends reading by a panic")
	}
	if !recovers {
		t.Error("no deferred function literal recovers a panic")
	}
}

// isCall reports whether a function is called by its name alone.
func isCall(call *ast.CallExpr, name string) bool {
	f, ok := call.Fun.(*ast.Ident)
	return ok && f.Name == name
}

func hasCall(in ast.Node, name string) bool {
	has := false
	ast.Inspect(in, func(n ast.Node) bool {
		call, ok := n.(*ast.CallExpr)
		has = has || ok && isCall(call, name)
		return true
	})
	return has
}

// TestSaddlerWays: the ways of package saddler: commands are method expressions in a table; the words of a line are distinguished by a switch whose cases fall through.
func TestSaddlerWays(t *testing.T) {
	falls := false
	inTable := map[string]bool{}
	for _, s := range inFolder(t, "saddler") {
		ast.Inspect(s.file, func(n ast.Node) bool {
			switch x := n.(type) {
			case *ast.CompositeLit: // a command in the table
				for _, value := range x.Elts {
					if name, ok := methodExpression(value, "Saddler"); ok {
						inTable[name] = true
					}
				}
			case *ast.CaseClause:
				for _, statement := range x.Body {
					branch, ok := statement.(*ast.BranchStmt)
					falls = falls || ok && branch.Tok == token.FALLTHROUGH
				}
			}
			return true
		})
	}
	if len(inTable) < 50 {
		t.Errorf("%d method expressions are in tables", len(inTable))
	}
	if !falls {
		t.Error("no case falls through")
	}
}

// methodExpression returns the name of a method that is written as (*Type).method.
func methodExpression(value ast.Expr, kind string) (string, bool) {
	x, ok := value.(*ast.SelectorExpr)
	if !ok {
		return "", false
	}
	in, ok := x.X.(*ast.ParenExpr)
	if !ok {
		return "", false
	}
	star, ok := in.X.(*ast.StarExpr)
	if !ok {
		return "", false
	}
	of, ok := star.X.(*ast.Ident)
	return x.Sel.Name, ok && of.Name == kind
}

func TestComments(t *testing.T) {
	said := map[string]bool{}
	for _, s := range sources(t) {
		for _, group := range s.file.Comments {
			for _, c := range group.List {
				if strings.HasPrefix(c.Text, "//go:") || strings.HasPrefix(c.Text, "// +build") {
					t.Errorf("%s: %s", s.path, c.Text)
				}
			}
		}
		name := s.file.Name.Name
		said[name] = said[name] || s.file.Doc != nil
	}
	for name, ok := range said {
		if !ok {
			t.Errorf("no comment says what package %s is", name)
		}
	}
}

func TestLayout(t *testing.T) {
	for _, s := range sources(t) {
		if text, err := format.Source(s.text); err != nil || !bytes.Equal(text, s.text) {
			t.Errorf("%s is not laid out by gofmt", s.path)
		}
		for _, d := range s.file.Decls {
			f, ok := d.(*ast.FuncDecl)
			if !ok {
				continue
			}
			if n := s.fset.Position(f.End()).Line - s.fset.Position(f.Pos()).Line + 1; n > maxLines {
				t.Errorf("%s: %s has %d lines", s.path, f.Name.Name, n)
			}
			if f.Name.IsExported() && f.Doc == nil {
				t.Errorf("%s: no comment says what %s does", s.path, f.Name.Name)
			}
		}
	}
}

// TestVariables: rules 3a and 3b: what a package keeps is a table, or an error made by errors.New.
func TestVariables(t *testing.T) {
	for _, s := range sources(t) {
		for _, d := range s.file.Decls {
			g, ok := d.(*ast.GenDecl)
			if !ok || g.Tok != token.VAR {
				continue
			}
			for _, spec := range g.Specs {
				v := spec.(*ast.ValueSpec)
				if len(v.Values) != len(v.Names) {
					t.Errorf("%s: %s has no value", s.path, v.Names[0].Name)
				}
				for _, value := range v.Values {
					checkValue(t, s, value)
				}
			}
		}
	}
}

func checkValue(t *testing.T, s source, value ast.Expr) {
	ast.Inspect(value, func(n ast.Node) bool {
		switch x := n.(type) {
		case *ast.CallExpr:
			if f, ok := x.Fun.(*ast.SelectorExpr); !ok || f.Sel.Name != "New" {
				t.Errorf("%s: a value is computed by a call", s.fset.Position(n.Pos()))
			}
		case *ast.MapType, *ast.FuncLit, *ast.FuncType:
			t.Errorf("%s: a map or a function in the state of a package", s.fset.Position(n.Pos()))
		}
		return true
	})
}
