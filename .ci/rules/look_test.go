package rules_test

import (
	"go/ast"
	"go/format"
	"go/parser"
	"go/token"
	"slices"
	"strings"
)

const module = "roundhouse/"

// allowed are the imports of the library.
var allowed = strings.Fields(`bytes cmp container/heap errors iter maps math math/bits slices sort strconv strings
	sync sync/atomic unicode unicode/utf8`)

// ofSync are the names of package sync that may be used.
var ofSync = []string{"Mutex", "RWMutex", "WaitGroup", "Once"}

// mostLines is how long a function may be.
const mostLines = 60

// looked is what is seen in a file: its faults, and the project's packages that it imports.
type looked struct {
	fset   *token.FileSet
	top    *ast.Scope // of the file's package
	faults []string
	own    []string
}

// look goes through a file's text.
func look(source string) *looked {
	l := &looked{fset: token.NewFileSet()}
	file, err := parser.ParseFile(l.fset, "", source, parser.ParseComments)
	if err != nil {
		l.say("not Go")
		return l
	}
	l.top = file.Scope
	if plain, err := format.Source([]byte(source)); err != nil || string(plain) != source {
		l.say("not in gofmt's layout")
	}
	l.comments(file)
	for _, x := range file.Imports {
		l.imported(strings.Trim(x.Path.Value, "\"`"))
	}
	for _, d := range file.Decls {
		l.declared(d)
	}
	ast.Inspect(file, func(n ast.Node) bool {
		l.used(n)
		return true
	})
	return l
}

func (l *looked) say(words ...string) {
	l.faults = append(l.faults, strings.Join(words, " "))
}

func (l *looked) comments(file *ast.File) {
	for _, group := range file.Comments {
		for _, c := range group.List {
			if strings.HasPrefix(c.Text, "//go:") || strings.HasPrefix(c.Text, "// +build") {
				l.say("line", c.Text)
			}
		}
	}
}

func (l *looked) imported(path string) {
	if own, is := strings.CutPrefix(path, module); is {
		l.own = append(l.own, own)
	} else if !slices.Contains(allowed, path) {
		l.say("import of", path)
	}
}

func (l *looked) declared(d ast.Decl) {
	switch x := d.(type) {
	case *ast.FuncDecl:
		if l.fset.Position(x.End()).Line-l.fset.Position(x.Pos()).Line+1 > mostLines {
			l.say(x.Name.Name, "has more than 60 lines")
		}
		if x.Recv == nil && x.Name.Name == "init" {
			l.say("func init")
		}
	case *ast.GenDecl:
		for _, s := range x.Specs {
			if v, is := s.(*ast.ValueSpec); is && x.Tok == token.VAR {
				l.variables(v)
			}
		}
	}
}

// variables tells what is wrong with variables at package level.
func (l *looked) variables(v *ast.ValueSpec) {
	for i, name := range v.Names {
		if len(v.Values) != len(v.Names) || !written(v.Values[i]) {
			l.say(name.Name, "has no written value")
			continue
		}
		if b, is := v.Values[i].(*ast.BasicLit); is && b.Kind == token.STRING {
			l.say(name.Name, "is a constant")
		}
		ast.Inspect(v.Values[i], func(n ast.Node) bool {
			if other := l.variable(n); other != "" {
				l.say(name.Name, "names the variable", other)
			}
			return true
		})
	}
}

// written says whether a value is one that a variable at package level may have: a table of literals, or an error of one text.
func written(value ast.Expr) bool {
	if call, is := value.(*ast.CallExpr); is {
		return isName(call.Fun, "errors", "New") && len(call.Args) == 1 && isText(call.Args[0])
	}
	good := true
	ast.Inspect(value, func(n ast.Node) bool {
		switch x := n.(type) {
		case *ast.CallExpr, *ast.MapType, *ast.FuncLit, *ast.FuncType, *ast.StarExpr, *ast.InterfaceType, *ast.ChanType:
			good = false
		case *ast.UnaryExpr:
			good = good && x.Op != token.AND
		case *ast.BasicLit:
			good = good && x.Kind != token.FLOAT && x.Kind != token.IMAG
		}
		return good
	})
	return good
}

func isText(e ast.Expr) bool {
	b, is := e.(*ast.BasicLit)
	return is && b.Kind == token.STRING
}

func isName(e ast.Node, pack, name string) bool {
	s, is := e.(*ast.SelectorExpr)
	if !is || s.Sel.Name != name {
		return false
	}
	x, is := s.X.(*ast.Ident)
	return is && x.Name == pack
}

// used tells what is wrong with a part of the file, wherever it stands.
func (l *looked) used(n ast.Node) {
	switch x := n.(type) {
	case *ast.SelectorExpr:
		pack, is := x.X.(*ast.Ident)
		if is && pack.Obj == nil && (pack.Name == "iter" && strings.HasPrefix(x.Sel.Name, "Pull") || pack.Name == "sync" && !slices.Contains(ofSync, x.Sel.Name)) {
			l.say("name", pack.Name+"."+x.Sel.Name)
		}
	case *ast.CallExpr:
		if f, is := x.Fun.(*ast.Ident); is && f.Obj == nil && (f.Name == "print" || f.Name == "println") {
			l.say("printing")
		}
	case *ast.AssignStmt:
		for _, e := range x.Lhs {
			l.assigned(e)
		}
	case *ast.IncDecStmt:
		l.assigned(x.X)
	case *ast.UnaryExpr:
		if x.Op == token.AND {
			l.addressed(x.X)
		}
	case *ast.SliceExpr:
		l.addressed(x.X)
	}
}

func (l *looked) assigned(e ast.Expr) {
	if name := l.variable(base(e)); name != "" {
		l.say(name, "is assigned")
	}
}

func (l *looked) addressed(e ast.Expr) {
	if name := l.variable(base(e)); name != "" {
		l.say("the address of", name, "is taken")
	}
}

// base is what an element or a field belongs to.
func base(e ast.Expr) ast.Expr {
	switch x := e.(type) {
	case *ast.IndexExpr:
		return base(x.X)
	case *ast.SelectorExpr:
		return base(x.X)
	case *ast.ParenExpr:
		return base(x.X)
	}
	return e
}

// variable is the name of a package-level variable of the file, or none.
func (l *looked) variable(n ast.Node) string {
	id, is := n.(*ast.Ident)
	if !is || id.Obj == nil || id.Obj.Kind != ast.Var || l.top.Lookup(id.Name) != id.Obj {
		return ""
	}
	return id.Name
}
