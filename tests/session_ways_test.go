package tests

import (
	"go/ast"
	"go/parser"
	"go/token"
	"maps"
	"path/filepath"
	"slices"
	"strconv"
	"strings"
	"testing"
)

// The variable commands tells no answer, so no session can show whether it stands as it must: its text is looked at.

// parsedImpl is the declarations of package impl.
func parsedImpl(t *testing.T) []ast.Decl {
	t.Helper()
	paths, err := filepath.Glob("../impl/*.go")
	if err != nil || len(paths) == 0 {
		t.Fatal("no files of impl: ", err)
	}
	var decls []ast.Decl
	for _, path := range paths {
		if strings.HasSuffix(path, "_test.go") {
			continue
		}
		file, err := parser.ParseFile(token.NewFileSet(), path, nil, parser.SkipObjectResolution)
		if err != nil {
			t.Fatal(err)
		}
		decls = append(decls, file.Decls...)
	}
	return decls
}

// functionNamed is the function, not a method, of a name.
func functionNamed(t *testing.T, decls []ast.Decl, name string) *ast.FuncDecl {
	t.Helper()
	for _, d := range decls {
		if f, ok := d.(*ast.FuncDecl); ok && f.Recv == nil && f.Name.Name == name {
			return f
		}
	}
	t.Fatalf("no function %s", name)
	return nil
}

// uses is how often a name stands below a node.
func uses(n ast.Node, name string) int {
	count := 0
	ast.Inspect(n, func(n ast.Node) bool {
		if id, ok := n.(*ast.Ident); ok && id.Name == name {
			count++
		}
		return true
	})
	return count
}

// isNamed says whether an expression is just this name.
func isNamed(e ast.Expr, name string) bool {
	id, ok := e.(*ast.Ident)
	return ok && id.Name == name
}

// assigned is what is assigned to a name below a node, where it is one name and one value.
func assigned(n ast.Node, name string) []ast.Expr {
	var values []ast.Expr
	ast.Inspect(n, func(n ast.Node) bool {
		if a, ok := n.(*ast.AssignStmt); ok && a.Tok == token.ASSIGN && len(a.Lhs) == 1 && isNamed(a.Lhs[0], name) {
			values = append(values, a.Rhs...)
		}
		return true
	})
	return values
}

// literal is the text of a literal.
func literal(t *testing.T, e ast.Expr) string {
	t.Helper()
	lit, ok := e.(*ast.BasicLit)
	if !ok {
		t.Fatalf("%T is no literal", e)
	}
	text, err := strconv.Unquote(lit.Value)
	if err != nil {
		t.Fatal(err)
	}
	return text
}

// laidCommands is the names of the functions that init lays into commands, by their words.
func laidCommands(t *testing.T, decls []ast.Decl) map[string]string {
	t.Helper()
	values := assigned(functionNamed(t, decls, "init"), "commands")
	if len(values) != 1 {
		t.Fatalf("init fills commands %d times", len(values))
	}
	table, ok := values[0].(*ast.CompositeLit)
	if !ok {
		t.Fatalf("init fills commands with a %T", values[0])
	}
	laid := map[string]string{}
	for _, e := range table.Elts {
		pair := e.(*ast.KeyValueExpr)
		laid[literal(t, pair.Key)] = pair.Value.(*ast.Ident).Name
	}
	return laid
}

// switchedCommands is the names of the functions that answerTo calls, by their words.
func switchedCommands(t *testing.T, decls []ast.Decl) map[string]string {
	t.Helper()
	called := map[string]string{}
	ast.Inspect(functionNamed(t, decls, "answerTo"), func(n ast.Node) bool {
		if c, ok := n.(*ast.CaseClause); ok {
			call := c.Body[0].(*ast.ReturnStmt).Results[0].(*ast.CallExpr)
			for _, word := range c.List {
				called[literal(t, word)] = call.Fun.(*ast.Ident).Name
			}
		}
		return true
	})
	return called
}

// TestCommandsHaveTheWords says that init fills commands with the words of chapter 5's table,
// each with the function by which it is answered.
func TestCommandsHaveTheWords(t *testing.T) {
	decls := parsedImpl(t)
	laid := laidCommands(t, decls)
	words := list("ask", "enter", "leave", "less", "moves", "order", "show", "things", "waits", "who")
	if told := slices.Sorted(maps.Keys(laid)); !slices.Equal(told, words) {
		t.Errorf("commands are %q", told)
	}
	if called := switchedCommands(t, decls); !maps.Equal(laid, called) {
		t.Errorf("commands are %q, but the answers come from %q", laid, called)
	}
}

// TestCommandsTellNoAnswer says that commands is a map with no value of its own, written by init alone,
// and read by ShareSession alone, which lets go what it read: so no answer can hang on it.
func TestCommandsTellNoAnswer(t *testing.T) {
	decls := parsedImpl(t)
	declared := 0
	for _, d := range decls {
		count := uses(d, "commands")
		if count == 0 {
			continue
		}
		switch x := d.(type) {
		case *ast.GenDecl:
			spec, ok := x.Specs[0].(*ast.ValueSpec)
			if !ok || x.Tok != token.VAR || len(x.Specs) != 1 || len(spec.Values) != 0 || count != 1 {
				t.Error("commands is not declared as a variable without a value")
				continue
			}
			if _, ok := spec.Type.(*ast.MapType); !ok {
				t.Errorf("commands is a %T", spec.Type)
			}
			declared++
		case *ast.FuncDecl:
			if name := x.Name.Name; name != "init" && name != "ShareSession" {
				t.Errorf("%s names commands", name)
			}
		}
	}
	if declared != 1 {
		t.Errorf("commands is declared %d times", declared)
	}
	if count := uses(functionNamed(t, decls, "init"), "commands"); count != 1 {
		t.Errorf("init names commands %d times", count)
	}
	session := functionNamed(t, decls, "ShareSession")
	dropped := assigned(session, "_")
	if len(dropped) != 1 || !isNamed(dropped[0], "commands") || uses(session, "commands") != 1 {
		t.Error("ShareSession does not read commands just once, and let it go")
	}
}
