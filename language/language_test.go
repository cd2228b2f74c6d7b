// Package language_test holds the program against rule 3a of shared/LANGUAGE.md, as far as it is about variables of package level: they are read directly, and nothing else.
package language_test

import (
	"go/ast"
	"go/importer"
	"go/parser"
	"go/token"
	"go/types"
	"os"
	"path/filepath"
	"slices"
	"strings"
	"testing"
)

// pack is a package whose files are looked at.
type pack struct {
	fset *token.FileSet
	info types.Info
	bad  []string // uses of variables that the rule does not have
}

// faults returns the uses of variables of package level in files of one package that are none by which they are read directly.
func faults(fset *token.FileSet, from types.Importer, files []*ast.File) ([]string, error) {
	p := &pack{fset: fset, info: types.Info{Types: map[ast.Expr]types.TypeAndValue{}, Uses: map[*ast.Ident]types.Object{}}}
	config := types.Config{Importer: from}
	_, err := config.Check(files[0].Name.Name, fset, files, &p.info)
	for _, f := range files {
		var within []ast.Node
		ast.Inspect(f, func(n ast.Node) bool {
			if n == nil {
				within = within[:len(within)-1]
				return true
			}
			if x, ok := n.(*ast.Ident); ok && p.isTable(x) && !p.isRead(x, within) {
				p.bad = append(p.bad, fset.Position(x.Pos()).String()+": "+x.Name+" is not read directly")
			}
			within = append(within, n)
			return true
		})
	}
	return p.bad, err
}

// isTable reports whether what is used is a variable of package level, and no error.
func (p *pack) isTable(x *ast.Ident) bool {
	v, ok := p.info.Uses[x].(*types.Var)
	return ok && !v.IsField() && v.Parent() == v.Pkg().Scope() && !types.Identical(v.Type(), types.Universe.Lookup("error").Type())
}

// isRead reports whether a variable, within these nodes, is read directly: its parts are walked, or counted, or one of them that shares no memory with its copies is taken.
func (p *pack) isRead(variable *ast.Ident, within []ast.Node) bool {
	var x ast.Expr = variable
	for _, up := range slices.Backward(within) {
		switch up := up.(type) {
		case *ast.SelectorExpr:
			x = up
			continue
		case *ast.ParenExpr:
			x = up
			continue
		case *ast.IndexExpr:
			if up.X == x {
				x = up
				continue
			}
		case *ast.RangeStmt:
			return up.X == x
		case *ast.CallExpr:
			if types.ExprString(up.Fun) == "len" {
				return true
			}
		case *ast.AssignStmt:
			if slices.Contains(up.Lhs, x) {
				return false
			}
		case *ast.IncDecStmt:
			return false
		case *ast.UnaryExpr:
			if up.Op == token.AND {
				return false
			}
		}
		break
	}
	return isPlain(p.info.Types[x].Type, x != variable)
}

// isPlain reports whether a type is of numbers, bools and strings, or, if it may be, of structs of these.
func isPlain(t types.Type, structs bool) bool {
	switch t := t.Underlying().(type) {
	case *types.Basic:
		return true
	case *types.Struct:
		for f := range t.Fields() {
			structs = structs && isPlain(f.Type(), true)
		}
		return structs
	}
	return false
}

// TestFaults: what does not read a variable directly is found, and nothing else.
func TestFaults(t *testing.T) {
	for text, right := range map[string]bool{
		`var low = 3; func F() int { return low + 1 }`:                                                               true,
		`var l = [...]int{1, 2}; func F(n int) (s int) { for _, x := range l { s += x }; return s + l[n] + len(l) }`: true,
		`var l = []frame{{"(", ")"}}; func F(n int) frame { x := l[n]; return x }`:                                   true,
		`var l = []frame{{"(", ")"}}; func F(n int) string { return l[n].open + (l[0]).end }`:                        true,
		`var l = []int{1, 0}; var m = []int{1, 0}; func F(n int) int { return l[m[n]] }`:                             true,
		`var word = typ{}; func F() int { return word.kind + len(word.parts) }`:                                      true,
		`var words = []typ{{}}; func F() (n int) { for _, w := range words[0].parts { n += w.kind }; return n }`:     true,
		`var word = typ{}; func F() typ { return word }`:                                                             false,
		`var word = typ{}; func F() []typ { return word.parts }`:                                                     false,
		`var words = []typ{{}}; func F() typ { return words[0] }`:                                                    false,
		`var words = []typ{{}}; func F() int { return g(words) }; func g(l []typ) int { return len(l) }`:             false,
		`var word = typ{}; func F() []typ { return []typ{word} }`:                                                    false,
		`var f = frame{"(", ")"}; func F() frame { return f }`:                                                       false,
		`var pair = [2]int{1, 2}; func F() [2]int { return pair }`:                                                   false,
		`var l = []int{1, 2}; func F() []int { return l[:1] }`:                                                       false,
		`var l = []int{1, 2}; func F() { l[0] = 3 }`:                                                                 false,
		`var n = 1; func F() { n++ }`:                                                                                false,
		`var n = 1; func F() *int { return &n }`:                                                                     false,
		`var l = []int{1, 2}; func F() { for l[0] = range 3 { } }`:                                                   false,
	} {
		fset := token.NewFileSet()
		f, err := parser.ParseFile(fset, "some.go", "package some\ntype typ struct { kind int; parts []typ }\ntype frame struct { open, end string }\n"+text, 0)
		if err != nil {
			t.Fatal(err)
		}
		bad, err := faults(fset, nil, []*ast.File{f})
		if err != nil || (len(bad) == 0) != right {
			t.Errorf("%s: %v, %v", text, bad, err)
		}
	}
}

// program imports the packages of the program from the folder above, and others from the library.
type program struct {
	fset  *token.FileSet
	std   types.Importer
	packs map[string]*types.Package
}

func (p *program) Import(path string) (made *types.Package, err error) {
	name, is := strings.CutPrefix(path, "deltaworks/")
	if !is {
		return p.std.Import(path)
	}
	if p.packs[name] == nil {
		config := types.Config{Importer: p}
		p.packs[name], err = config.Check(path, p.fset, p.parse(name), nil)
	}
	return p.packs[name], err
}

// parse returns the files of a package, without its tests.
func (p *program) parse(name string) (files []*ast.File) {
	paths, _ := filepath.Glob(filepath.Join("..", name, "*.go"))
	for _, path := range paths {
		if strings.HasSuffix(path, "_test.go") {
			continue
		}
		if f, err := parser.ParseFile(p.fset, path, nil, 0); err == nil {
			files = append(files, f)
		}
	}
	return files
}

// TestProgram: rule 3a: no package of the program does more with a variable of package level than to read it directly.
func TestProgram(t *testing.T) {
	folders, err := os.ReadDir("..")
	if err != nil {
		t.Fatal(err)
	}
	fset := token.NewFileSet()
	p := &program{fset, importer.ForCompiler(fset, "source", nil), map[string]*types.Package{}}
	seen := 0
	for _, folder := range folders {
		files := p.parse(folder.Name())
		if len(files) == 0 {
			continue
		}
		seen++
		bad, err := faults(fset, p, files)
		if err != nil || len(bad) > 0 {
			t.Errorf("%s: %v, %v", folder.Name(), bad, err)
		}
	}
	if seen < 39 {
		t.Error(seen)
	}
}
