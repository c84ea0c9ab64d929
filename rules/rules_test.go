// Package rules holds the program's code against the language that it is written in: what its text alone can tell.
package rules

import (
	"go/ast"
	"go/build"
	"go/importer"
	"go/parser"
	"go/token"
	"go/types"
	"io/fs"
	"os"
	"os/exec"
	"path/filepath"
	"slices"
	"strings"
	"testing"
)

const mayImport = " bytes cmp container/heap errors iter maps math math/big math/bits slices sort strconv strings sync sync/atomic unicode unicode/utf8 "

// mayNotSync are the names of package sync that the language leaves out.
const mayNotSync = " Cond Map Pool OnceFunc OnceValue OnceValues NewCond Locker "

// startsIn are the packages that have a func init, which fills one variable: the document asks for it there.
const startsIn = " strata/console "

// mostLines is how long a function may be.
const mostLines = 60

// code is a package with its types.
type code struct {
	path  string
	files []*ast.File
	info  *types.Info
	types *types.Package
}

// reader reads packages, and those that they import.
type reader struct {
	root  string
	fset  *token.FileSet
	codes map[string]*code
	std   types.Importer
}

func newReader(root string) *reader {
	if build.Default.GOROOT == "" { // the importer reads the library's source, and a test that is built with -trimpath does not know where that is
		out, _ := exec.Command("go", "env", "GOROOT").Output()
		build.Default.GOROOT = strings.TrimSpace(string(out))
	}
	fset := token.NewFileSet()
	return &reader{root: root, fset: fset, codes: map[string]*code{}, std: importer.ForCompiler(fset, "source", nil)}
}

func (r *reader) Import(path string) (*types.Package, error) {
	if !strings.HasPrefix(path, "strata/") {
		return r.std.Import(path)
	}
	c, err := r.read(path)
	if err != nil {
		return nil, err
	}
	return c.types, nil
}

func (r *reader) read(path string) (*code, error) {
	if c := r.codes[path]; c != nil {
		return c, nil
	}
	names, err := filepath.Glob(filepath.Join(r.root, strings.TrimPrefix(path, "strata"), "*.go"))
	if err != nil {
		return nil, err
	}
	var texts []string
	for _, name := range names {
		if !strings.HasSuffix(name, "_test.go") {
			texts = append(texts, name)
		}
	}
	return r.check(path, texts, nil)
}

// check makes a package of files; text, if it is not nil, is what the one file holds.
func (r *reader) check(path string, names []string, text any) (*code, error) {
	c := &code{path: path, info: &types.Info{
		Types:      map[ast.Expr]types.TypeAndValue{},
		Uses:       map[*ast.Ident]types.Object{},
		Defs:       map[*ast.Ident]types.Object{},
		Selections: map[*ast.SelectorExpr]*types.Selection{},
	}}
	r.codes[path] = c
	for _, name := range names {
		f, err := parser.ParseFile(r.fset, name, text, parser.ParseComments)
		if err != nil {
			return nil, err
		}
		c.files = append(c.files, f)
	}
	var err error
	config := types.Config{Importer: r}
	c.types, err = config.Check(path, r.fset, c.files, c.info)
	return c, err
}

// faults are the places where a package leaves the language, and how.
func (r *reader) faults(c *code) []string {
	var out []string
	tell := func(at ast.Node, what string) {
		p := r.fset.Position(at.Pos())
		out = append(out, filepath.Base(p.Filename)+": "+what)
	}
	starts := 0
	for _, f := range c.files {
		tellImports(f, tell)
		tellRemarks(f, tell)
		for _, d := range f.Decls {
			c.tellUses(d, tell)
			switch x := d.(type) {
			case *ast.FuncDecl:
				if isStart(x) {
					starts++
					c.tellStart(x, starts, tell)
				}
				if r.fset.Position(x.End()).Line-r.fset.Position(x.Pos()).Line >= mostLines {
					tell(x, "a function that is too long: "+x.Name.Name)
				}
			case *ast.GenDecl:
				if x.Tok == token.VAR {
					c.tellVariables(x, tell)
				}
			}
		}
	}
	return out
}

func tellImports(f *ast.File, tell func(ast.Node, string)) {
	for _, i := range f.Imports {
		path := strings.Trim(i.Path.Value, `"`)
		if !strings.HasPrefix(path, "strata/") && !strings.Contains(mayImport, " "+path+" ") {
			tell(i, "an import that is not of the language: "+path)
		}
	}
}

func tellRemarks(f *ast.File, tell func(ast.Node, string)) {
	for _, g := range f.Comments {
		for _, c := range g.List {
			if strings.HasPrefix(c.Text, "//go:") || strings.HasPrefix(c.Text, "// +build") {
				tell(c, "a line for the tools: "+c.Text)
			}
		}
	}
}

// tellVariables: what stands at package level is an error made of one text, or a table of plain values that are written out.
func (c *code) tellVariables(g *ast.GenDecl, tell func(ast.Node, string)) {
	for _, s := range g.Specs {
		v := s.(*ast.ValueSpec)
		if len(v.Values) != len(v.Names) {
			tell(v, "a package-level variable without a value of its own: "+v.Names[0].Name)
			continue
		}
		for i, name := range v.Names {
			if !c.isError(v.Values[i]) && (!plain(c.info.Types[v.Values[i]].Type) || !c.writtenOut(v.Values[i])) {
				tell(name, "a package-level variable that is no short table: "+name.Name)
			}
		}
	}
}

func (c *code) isError(e ast.Expr) bool {
	call, ok := e.(*ast.CallExpr)
	return ok && types.ExprString(call.Fun) == "errors.New" && len(call.Args) == 1 && c.info.Types[call.Args[0]].Value != nil
}

// plain: numbers (no floats), bools, structs, arrays and slices of these; a text only within them.
func plain(t types.Type) bool {
	if b, ok := t.Underlying().(*types.Basic); ok && b.Info()&types.IsString != 0 {
		return false
	}
	return plainWithin(t)
}

func plainWithin(t types.Type) bool {
	switch x := t.Underlying().(type) {
	case *types.Basic:
		return x.Info()&(types.IsInteger|types.IsBoolean|types.IsString) != 0
	case *types.Array:
		return plainWithin(x.Elem())
	case *types.Slice:
		return plainWithin(x.Elem())
	case *types.Struct:
		for i := range x.NumFields() {
			if !plainWithin(x.Field(i).Type()) {
				return false
			}
		}
		return !strings.HasPrefix(t.String(), "sync")
	}
	return false
}

func (c *code) writtenOut(e ast.Expr) bool {
	if c.info.Types[e].Value != nil {
		return true
	}
	l, ok := e.(*ast.CompositeLit)
	if !ok {
		return false
	}
	for _, x := range l.Elts {
		if kv, ok := x.(*ast.KeyValueExpr); ok {
			x = kv.Value
		}
		if !c.writtenOut(x) {
			return false
		}
	}
	return true
}

// isStart tells whether a declaration is a func init.
func isStart(d ast.Decl) bool {
	f, is := d.(*ast.FuncDecl)
	return is && f.Recv == nil && f.Name.Name == "init"
}

// fills is the variable that an assignment of init fills; none, if it does anything else.
func (c *code) fills(n ast.Node) string {
	x, is := n.(*ast.AssignStmt)
	if !is || x.Tok != token.ASSIGN || len(x.Lhs) != 1 {
		return ""
	}
	if _, is := x.Lhs[0].(*ast.Ident); !is || !c.writtenOut(x.Rhs[0]) {
		return ""
	}
	return c.packageLevel(x.Lhs[0])
}

// tellStart: only where it is asked for there is a func init, just one, and what it does is to fill one variable with a table that is written out.
func (c *code) tellStart(f *ast.FuncDecl, many int, tell func(ast.Node, string)) {
	if many > 1 || !strings.Contains(startsIn, " "+c.path+" ") {
		tell(f, "a func init")
	}
	if len(f.Body.List) != 1 || c.fills(f.Body.List[0]) == "" {
		tell(f, "a func init that does more than to fill one variable")
	}
}

// tellUses: no package-level variable is assigned to, nor its address taken, in whatever form.
func (c *code) tellUses(d ast.Decl, tell func(ast.Node, string)) {
	change := func(e ast.Expr, what string) {
		if name := c.packageLevel(e); name != "" {
			tell(e, what+": "+name)
		}
	}
	const assigned, address = "a package-level variable that is assigned to", "the address of a package-level variable"
	ast.Inspect(d, func(n ast.Node) bool {
		switch x := n.(type) {
		case *ast.AssignStmt:
			if isStart(d) && c.fills(x) != "" {
				break
			}
			for _, e := range x.Lhs {
				change(e, assigned)
			}
		case *ast.IncDecStmt:
			change(x.X, assigned)
		case *ast.RangeStmt:
			change(x.Key, assigned)
			change(x.Value, assigned)
		case *ast.UnaryExpr:
			if x.Op == token.AND {
				change(x.X, address)
			}
		case *ast.SliceExpr:
			change(x.X, address)
		case *ast.SelectorExpr:
			if c.takesAddress(x) {
				change(x.X, address)
			}
			if o := c.info.Uses[x.Sel]; o != nil && o.Pkg() != nil && o.Pkg().Path() == "sync" && strings.Contains(mayNotSync, " "+o.Name()+" ") {
				tell(x, "of package sync: "+o.Name())
			}
		}
		return true
	})
}

// takesAddress: a method of a pointer that is called on what is none.
func (c *code) takesAddress(x *ast.SelectorExpr) bool {
	s := c.info.Selections[x]
	if s == nil || s.Kind() != types.MethodVal {
		return false
	}
	_, is := s.Recv().Underlying().(*types.Pointer)
	_, asks := s.Obj().(*types.Func).Signature().Recv().Type().Underlying().(*types.Pointer)
	return asks && !is
}

// packageLevel is the name of the package-level variable that an expression is, or is a part of.
func (c *code) packageLevel(e ast.Expr) string {
	switch x := e.(type) {
	case *ast.ParenExpr:
		return c.packageLevel(x.X)
	case *ast.IndexExpr:
		return c.packageLevel(x.X)
	case *ast.StarExpr:
		return c.packageLevel(x.X)
	case *ast.SelectorExpr:
		if name := c.packageLevel(x.Sel); name != "" {
			return name
		}
		return c.packageLevel(x.X)
	case *ast.Ident:
		if v, ok := c.info.Uses[x].(*types.Var); ok && !v.IsField() && v.Parent() == v.Pkg().Scope() {
			return v.Name()
		}
	}
	return ""
}

// folders are those of the program's packages.
func folders(t *testing.T, root string) []string {
	t.Helper()
	var out []string
	err := filepath.WalkDir(root, func(path string, d fs.DirEntry, err error) error {
		if err != nil {
			return err
		}
		name := d.Name()
		if d.IsDir() && path != root && (name[0] == '.' || name == "sharedtests" || name == "rules") {
			return filepath.SkipDir
		}
		if ext := filepath.Ext(name); ext == ".test" || ext == ".out" {
			t.Errorf("%s: a file that a tool has left", path)
		}
		if dir := filepath.Dir(path); dir != filepath.Clean(root) && !d.IsDir() {
			if filepath.Ext(name) != ".go" {
				t.Errorf("%s: a file that is not Go", path)
			}
			rel, _ := filepath.Rel(root, dir)
			if !slices.Contains(out, rel) {
				out = append(out, rel)
			}
		}
		return nil
	})
	if err != nil {
		t.Fatal(err)
	}
	return out
}

func TestTheProgramKeepsToItsLanguage(t *testing.T) {
	const root = ".."
	if _, err := os.Stat(filepath.Join(root, "go.mod")); err != nil {
		t.Fatal(err)
	}
	r := newReader(root)
	dirs := folders(t, root)
	if len(dirs) < 21 {
		t.Fatalf("%d packages: %v", len(dirs), dirs)
	}
	for _, dir := range dirs {
		c, err := r.read("strata/" + filepath.ToSlash(dir))
		if err != nil {
			t.Fatal(err)
		}
		for _, f := range r.faults(c) {
			t.Errorf("%s/%s", dir, f)
		}
	}
}

// TestTheRulesTell: a check that tells nothing would hold of anything.
func TestTheRulesTell(t *testing.T) {
	const head = "package x\n"
	for _, c := range []struct {
		text, want string
	}{
		{head + "import \"errors\"\nvar a = errors.New(\"a\")\nvar b = [2]int{1, 2}\nfunc f() int { return b[1] }\n", ""},
		{head + "import \"fmt\"\nfunc f() { fmt.Println() }\n", "an import that is not of the language: fmt"},
		{head + "var a int\n", "a package-level variable without a value of its own: a"},
		{head + "var a = map[int]int{}\n", "a package-level variable that is no short table: a"},
		{head + "var a = \"text\"\n", "a package-level variable that is no short table: a"},
		{head + "var a = 1.5\n", "a package-level variable that is no short table: a"},
		{head + "var a = &struct{}{}\n", "a package-level variable that is no short table: a"},
		{head + "var a = f()\nfunc f() int { return 1 }\n", "a package-level variable that is no short table: a"},
		{head + "import \"sync\"\nvar a = struct{ m sync.Mutex }{}\n", "a package-level variable that is no short table: a"},
		{head + "var a = [2]int{1, 2}\nfunc f() { a[1] = 2 }\n", "a package-level variable that is assigned to: a"},
		{head + "var a = 1\nfunc f() { a++ }\n", "a package-level variable that is assigned to: a"},
		{head + "var a = 1\nfunc f() { for a = range 3 {\n} }\n", "a package-level variable that is assigned to: a"},
		{head + "var a = struct{ n [2]int }{}\nfunc f() { (a.n)[0], _ = 1, 2 }\n", "a package-level variable that is assigned to: a"},
		{head + "var a = 1\nfunc f() *int { return &a }\n", "the address of a package-level variable: a"},
		{head + "var a = [2]int{1, 2}\nfunc f() []int { return a[:] }\n", "the address of a package-level variable: a"},
		{head + "type n int\nfunc (x *n) up() {}\nvar a = n(1)\nfunc f() { a.up() }\n", "the address of a package-level variable: a"},
		{head + "func f() { a := 1; a++; b := &a; *b = 2 }\n", ""},
		{head + "//go:noinline\nfunc f() {}\n", "a line for the tools: //go:noinline"},
		{head + "import \"sync\"\nfunc f() { var p sync.Pool; p.Get() }\n", "of package sync: Pool"},
		{head + "var a = []int{}\nfunc init() { a = []int{1, 2} }\n", "a func init"},
		{head + "var a, b = []int{}, []int{}\nfunc init() {\n a = []int{1}\n b = []int{2}\n}\n", "a func init that does more than to fill one variable"},
		{head + "var a = []int{}\nfunc init() { a = append(a, 1) }\n", "a package-level variable that is assigned to: a"},
		{head + "var a = [2]int{}\nfunc init() { a[0] = 1 }\n", "a package-level variable that is assigned to: a"},
		{head + "var a = []int{}\nfunc f() { a = []int{1, 2} }\n", "a package-level variable that is assigned to: a"},
		{head + "func f() {\n" + strings.Repeat("_ = 1\n", 60) + "}\n", "a function that is too long: f"},
	} {
		r := newReader("..")
		p, err := r.check("strata/x", []string{"x.go"}, c.text)
		if err != nil {
			t.Fatalf("%s: %v", c.text, err)
		}
		got := r.faults(p)
		if c.want == "" && len(got) > 0 || c.want != "" && !slices.Contains(got, "x.go: "+c.want) {
			t.Errorf("%s\ntells %q, want %q", c.text, got, c.want)
		}
	}
}
