// Package rules holds the sources of all packages against rules of the language that the compiler does not hold them to.
package rules

import (
	"errors"
	"go/ast"
	"go/parser"
	"go/token"
	"go/types"
	"maps"
	"path/filepath"
	"slices"
	"strings"
	"testing"
)

// objects are variables and fields.
type objects map[types.Object]bool

// sources are the files of a package, and what their names stand for.
type sources struct {
	fset  *token.FileSet
	files []*ast.File
	info  types.Info
	// bodies are the functions that the names of functions, and of variables that hold one, may stand for.
	bodies map[types.Object][]ast.Node
}

// nothing imports no package: the names of a package are known without those that it imports.
type nothing struct{}

func (nothing) Import(string) (*types.Package, error) {
	return nil, errors.New("not imported")
}

// newSources finds what the names of the files stand for.
func newSources(fset *token.FileSet, files []*ast.File) *sources {
	s := &sources{fset: fset, files: files, bodies: map[types.Object][]ast.Node{}}
	s.info = types.Info{Defs: map[*ast.Ident]types.Object{}, Uses: map[*ast.Ident]types.Object{}}
	lenient := types.Config{Importer: nothing{}, Error: func(error) {}}
	lenient.Check("", fset, files, &s.info)
	s.inspect(func(n ast.Node) {
		switch x := n.(type) {
		case *ast.FuncDecl:
			s.bodies[s.info.Defs[x.Name]] = []ast.Node{x}
		case *ast.AssignStmt:
			for i, right := range x.Rhs {
				name, isName := x.Lhs[i].(*ast.Ident)
				if lit, ok := right.(*ast.FuncLit); ok && isName {
					s.bodies[s.object(name)] = append(s.bodies[s.object(name)], lit)
				}
			}
		}
	})
	return s
}

// inspect calls see with all nodes of the files.
func (s *sources) inspect(see func(n ast.Node)) {
	for _, f := range s.files {
		ast.Inspect(f, func(n ast.Node) bool {
			see(n)
			return true
		})
	}
}

// object is what a name stands for, nil for a name of an imported package; a generic function or method stands for
// itself, whatever its types.
func (s *sources) object(name *ast.Ident) types.Object {
	switch x := s.info.ObjectOf(name).(type) {
	case *types.Func:
		return x.Origin()
	case *types.Var:
		return x.Origin()
	default:
		return x
	}
}

// changed adds to all what is changed where the function body assigns to e: variables of outside it, and fields
// behind pointers.
func (s *sources) changed(e ast.Expr, body ast.Node, all objects) {
	var fields []types.Object
	for {
		switch x := e.(type) {
		case *ast.Ident:
			o := s.object(x)
			if o == nil {
				return
			}
			outside := o.Pos() < body.Pos() || o.Pos() >= body.End()
			_, pointer := o.Type().Underlying().(*types.Pointer)
			if outside && (!pointer || len(fields) == 0) {
				all[o] = true
			}
			for _, f := range fields {
				if f != nil && (outside || pointer) {
					all[f] = true
				}
			}
			return
		case *ast.SelectorExpr:
			fields = append(fields, s.object(x.Sel))
			e = x.X
		case *ast.IndexExpr:
			e = x.X
		case *ast.ParenExpr:
			e = x.X
		case *ast.StarExpr:
			e = x.X
		default:
			return
		}
	}
}

// changes adds to all what calls of the function body may change.
func (s *sources) changes(body ast.Node, all objects, seen map[ast.Node]bool) {
	if seen[body] {
		return
	}
	seen[body] = true
	ast.Inspect(body, func(n ast.Node) bool {
		switch x := n.(type) {
		case *ast.AssignStmt:
			for _, left := range x.Lhs {
				s.changed(left, body, all)
			}
		case *ast.IncDecStmt:
			s.changed(x.X, body, all)
		case *ast.Ident:
			for _, other := range s.bodies[s.object(x)] {
				s.changes(other, all, seen)
			}
		}
		return true
	})
}

// operandsOf are the expressions that are evaluated on the left of an assignment: what is only assigned to is none.
func operandsOf(left ast.Expr, sign token.Token) []ast.Expr {
	if sign != token.ASSIGN && sign != token.DEFINE {
		return []ast.Expr{left}
	}
	switch x := left.(type) {
	case *ast.Ident:
		return nil
	case *ast.SelectorExpr:
		return []ast.Expr{x.X}
	}
	return []ast.Expr{left}
}

// operands are the expressions of a statement that are evaluated together.
func operands(n ast.Node) []ast.Expr {
	switch x := n.(type) {
	case *ast.ExprStmt:
		return []ast.Expr{x.X}
	case *ast.SendStmt:
		return []ast.Expr{x.Chan, x.Value}
	case *ast.ReturnStmt:
		return x.Results
	case *ast.ValueSpec:
		return x.Values
	case *ast.IfStmt:
		return []ast.Expr{x.Cond}
	case *ast.ForStmt:
		return []ast.Expr{x.Cond}
	case *ast.RangeStmt:
		return []ast.Expr{x.X}
	case *ast.SwitchStmt:
		return []ast.Expr{x.Tag}
	case *ast.CaseClause:
		return x.List
	case *ast.AssignStmt:
		l := slices.Clone(x.Rhs)
		for _, left := range x.Lhs {
			l = append(l, operandsOf(left, x.Tok)...)
		}
		return l
	}
	return nil
}

// clashes are the places where an expression reads what a function in it may change.
func (s *sources) clashes() []string {
	found := map[string]bool{}
	s.inspect(func(n ast.Node) {
		read, all, seen := objects{}, objects{}, map[ast.Node]bool{}
		for _, e := range operands(n) {
			if e == nil {
				continue
			}
			ast.Inspect(e, func(n ast.Node) bool {
				switch x := n.(type) {
				case *ast.FuncLit:
					s.changes(x, all, seen)
					return false
				case *ast.Ident:
					o := s.object(x)
					read[o] = true
					for _, body := range s.bodies[o] {
						s.changes(body, all, seen)
					}
				}
				return true
			})
		}
		for o := range all {
			if read[o] {
				found[s.fset.Position(n.Pos()).String()+": "+o.Name()] = true
			}
		}
	})
	return slices.Sorted(maps.Keys(found))
}

// parsed are the files of a folder, without its tests: the rules are for the program.
func parsed(t *testing.T, folder string) *sources {
	t.Helper()
	names, _ := filepath.Glob(filepath.Join(folder, "*.go"))
	fset := token.NewFileSet()
	var files []*ast.File
	for _, name := range names {
		if strings.HasSuffix(name, "_test.go") {
			continue
		}
		f, err := parser.ParseFile(fset, name, nil, parser.SkipObjectResolution)
		if err != nil {
			t.Fatal(err)
		}
		files = append(files, f)
	}
	return newSources(fset, files)
}

// Where an expression reads a variable that a call in it changes, its answer hangs on an order that Go leaves open.
func TestRule5Order(t *testing.T) {
	folders, _ := filepath.Glob("../*")
	n := 0
	for _, folder := range folders {
		// These are no folders of the project, wherever its tests are run.
		name := filepath.Base(folder)
		if name == "sharedtests" || name == "form" || name == "try" || strings.HasPrefix(name, "facsimile") {
			continue
		}
		s := parsed(t, folder)
		n += len(s.files)
		for _, clash := range s.clashes() {
			t.Error(clash)
		}
	}
	if n < 45 {
		t.Error("files:", n)
	}
}

// The search finds such expressions, and no others.
func TestRule5Search(t *testing.T) {
	const head = `package p
import "pk"
func set(f func()) int { f(); var out pk.T; out.At = 1; return out.At }
type stack struct { l []int; n int }
func (s *stack) pop() int { s.l = s.l[1:]; return s.next() }
func (s *stack) next() int { s.n++; return s.n }
func (s stack) low() int { s.n = 0; return s.n }
func pass[T any](f func() T) T { return f() }
func run(s *stack) (x int) {
	found := []int{1}
	take := func() int { found = found[1:]; return 1 }
	again := func() int { return take() }
	own := func() int { n := 1; n++; return n }
	var out pk.T
	_, _, _, _ = take, again, own, out
	`
	for line, clashes := range map[string]int{
		"found = append(found, pass(take))":                1,
		"found = append(found, take())":                    1,
		"found = append(found, again())":                   1,
		"found[0] = take()":                                1,
		"x = len(found) + take()":                          1,
		"x = take() + len(found)":                          1,
		"x += pass(func() int { x++; return x })":          1,
		"if len(found) > take() { x = 1 }":                 1,
		"for len(found) > take() { x = 1 }":                1,
		"switch take() + len(found) { case 1: x = 1 }":     1,
		"s.l = append(s.l, s.pop())":                       1,
		"s.l[0] = s.pop()":                                 1,
		"x = s.n + s.pop()":                                1,
		"x = s.n + pass(s.pop)":                            1,
		"return len(found) + take()":                       1,
		"made := take(); found = append(found, made)":      0,
		"found = append(found, own())":                     0,
		"x = take() + take()":                              0,
		"x = take()":                                       0,
		"x = pass(func() int { x := 1; x++; return x })":   0,
		"x = s.n + s.low()":                                0,
		"x = len(s.l) + s.next()":                          0,
		"s.n = s.next()":                                   0,
		"s.n += s.next()":                                  1,
		"x, found[x] = take(), 1":                          1,
		"x, found = take(), nil":                           0,
		"out.Of.At = out.Of.To + set(func() { out.At++ })": 1,
		"out := pk.New(); out.At = pass(out.To) + pk.N":    0,
		"n := s.next(); s.n = n":                           0,
		"if x = take(); len(found) > 0 { x = len(found) }": 0,
	} {
		fset := token.NewFileSet()
		f, err := parser.ParseFile(fset, "", head+line+"\n\treturn x\n}\n", parser.SkipObjectResolution)
		if err != nil {
			t.Fatal(line, err)
		}
		if got := newSources(fset, []*ast.File{f}).clashes(); len(got) != clashes {
			t.Errorf("%s: %v", line, got)
		}
	}
}
