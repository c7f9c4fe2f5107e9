// Package rules tests what must hold of the program's own text: what it imports (the document's map, the language's rules) and which ways it leans on.
package rules

import (
	"go/ast"
	"go/importer"
	"go/parser"
	"go/token"
	"go/types"
	"os"
	"path/filepath"
	"slices"
	"strconv"
	"strings"
	"testing"
)

const root = ".."

// library is what may be imported of Go's own packages.
const library = " bytes cmp container/heap errors iter maps math math/bits slices sort strconv strings sync sync/atomic unicode unicode/utf8 "

// layers, in their order, and what each may call; * is all ahead of it.
var layers = []struct{ name, calls string }{
	{"api", ""},
	{"wire", "api"},
	{"crc", "api wire"},
	{"disk", "api"},
	{"net", "api"},
	{"key", "api"},
	{"page", "api wire crc key"},
	{"node", "api key page"},
	{"alloc", "api"},
	{"record", "api wire crc key page"},
	{"wal", "api record"},
	{"pool", "api"},
	{"redo", "api page node record"},
	{"blink", "api page node alloc record redo"},
	{"steps", "api key page node blink"},
	{"points", "api wire crc"},
	{"restart", "api page wal redo blink"},
	{"replay", "api record redo"},
	{"fold", "api key record"},
	{"line", "api"},
	{"ship", "api record wal"},
	{"quorum", "api"},
	{"vote", "api wire crc quorum"},
	{"rewind", "api redo blink line fold"},
	{"session", "api"},
	{"replica", "*"},
	{"trace", "api record fold"},
	{"cluster", "*"},
	{"desk", "api cluster"},
}

// mayCall are the layers that a layer may call.
func mayCall(layer int) []string {
	if layers[layer].calls != "*" {
		return strings.Fields(layers[layer].calls)
	}
	var l []string
	for _, x := range layers[:layer] {
		l = append(l, x.name)
	}
	return l
}

// files are the parsed files of a folder, but those of its tests.
func files(t *testing.T, set *token.FileSet, folder string) []*ast.File {
	t.Helper()
	names, err := filepath.Glob(filepath.Join(root, folder, "*.go"))
	if err != nil {
		t.Fatal(err)
	}
	var l []*ast.File
	for _, name := range names {
		if strings.HasSuffix(name, "_test.go") {
			continue
		}
		f, err := parser.ParseFile(set, name, nil, parser.ParseComments)
		if err != nil {
			t.Fatal(err)
		}
		l = append(l, f)
	}
	return l
}

func TestLayersImportWhatTheyMay(t *testing.T) {
	for i, layer := range layers {
		set := token.NewFileSet()
		l := files(t, set, layer.name)
		if len(l) == 0 {
			t.Errorf("%s: no such package", layer.name)
		}
		for _, f := range l {
			for _, x := range f.Imports {
				path, _ := strconv.Unquote(x.Path.Value)
				own, isOwn := strings.CutPrefix(path, "lattice/")
				if isOwn && slices.ContainsFunc(layers, func(y struct{ name, calls string }) bool { return y.name == own }) {
					if !slices.Contains(mayCall(i), own) {
						t.Errorf("%s: %s may not call %s", set.Position(x.Pos()), layer.name, own)
					}
				} else if !isOwn && !strings.Contains(library, " "+path+" ") {
					t.Errorf("%s: %s may not be imported", set.Position(x.Pos()), path)
				}
			}
		}
	}
}

func TestNoLineSteersTheCompiler(t *testing.T) {
	folders, err := os.ReadDir(root)
	if err != nil {
		t.Fatal(err)
	}
	for _, folder := range folders {
		if !folder.IsDir() || folder.Name() == "sharedtests" {
			continue
		}
		set := token.NewFileSet()
		for _, f := range files(t, set, folder.Name()) {
			for _, group := range f.Comments {
				for _, c := range group.List {
					if strings.HasPrefix(c.Text, "//go:") || strings.HasPrefix(c.Text, "// +build") {
						t.Errorf("%s: %s", set.Position(c.Pos()), c.Text)
					}
				}
			}
		}
	}
}

// has tells whether a node of some files' text is one of those that are looked for.
func has(t *testing.T, l []*ast.File, is func(ast.Node) bool) bool {
	t.Helper()
	found := false
	for _, f := range l {
		ast.Inspect(f, func(n ast.Node) bool {
			found = found || n != nil && is(n)
			return !found
		})
	}
	return found
}

// isArray tells whether a node of the text is an array's type.
func isArray(n ast.Node) bool {
	x, ok := n.(*ast.ArrayType)
	return ok && x.Len != nil
}

// calls tells of a node of the text whether it calls one of the language's own functions.
func calls(name string) func(ast.Node) bool {
	return func(n ast.Node) bool {
		x, ok := n.(*ast.CallExpr)
		if !ok {
			return false
		}
		f, ok := x.Fun.(*ast.Ident)
		return ok && f.Name == name
	}
}

func TestSectorsAreArrays(t *testing.T) {
	l := files(t, token.NewFileSet(), "disk")
	if !has(t, l, isArray) {
		t.Error("disk: no array")
	}
	if !has(t, l, calls("copy")) {
		t.Error("disk: no bytes are laid by copy")
	}
}

// isCutByThree tells whether a node of the text is a slice with three indices.
func isCutByThree(n ast.Node) bool {
	x, ok := n.(*ast.SliceExpr)
	return ok && x.Slice3
}

func TestMessagesAreCutByThreeIndices(t *testing.T) {
	if !has(t, files(t, token.NewFileSet(), "net"), isCutByThree) {
		t.Error("net: no slice with three indices")
	}
}

func TestPagesAreArrays(t *testing.T) {
	if !has(t, files(t, token.NewFileSet(), "page"), isArray) {
		t.Error("page: no array")
	}
}

func TestWriterEmbedsAList(t *testing.T) {
	found := false
	for _, f := range files(t, token.NewFileSet(), "wire") {
		ast.Inspect(f, func(n ast.Node) bool {
			x, ok := n.(*ast.TypeSpec)
			if !ok || x.Name.Name != "Writer" {
				return true
			}
			if s, ok := x.Type.(*ast.StructType); ok {
				found = slices.ContainsFunc(s.Fields.List, func(f *ast.Field) bool { return len(f.Names) == 0 })
			}
			return false
		})
	}
	if !found {
		t.Error("wire: a writer's bytes are no embedded list")
	}
}

// checked are the files of a layer, and what their types are.
func checked(t *testing.T, layer string) ([]*ast.File, *types.Info) {
	t.Helper()
	set := token.NewFileSet()
	l := files(t, set, layer)
	info := &types.Info{Types: map[ast.Expr]types.TypeAndValue{}, Selections: map[*ast.SelectorExpr]*types.Selection{}}
	conf := types.Config{Importer: importer.ForCompiler(set, "source", nil)}
	if _, err := conf.Check("lattice/"+layer, set, l, info); err != nil {
		t.Fatal(err)
	}
	return l, info
}

// ranges tells whether a loop of a layer ranges over a value of such a type.
func ranges(t *testing.T, layer string, is func(types.Type) bool) bool {
	t.Helper()
	l, info := checked(t, layer)
	return has(t, l, func(n ast.Node) bool {
		x, ok := n.(*ast.RangeStmt)
		return ok && is(info.Types[x.X].Type.Underlying())
	})
}

// rangesOver tells whether a loop of a layer ranges over a value of such a basic kind.
func rangesOver(t *testing.T, layer string, kind types.BasicInfo) bool {
	t.Helper()
	return ranges(t, layer, func(x types.Type) bool {
		b, ok := x.(*types.Basic)
		return ok && b.Info()&kind != 0
	})
}

// isFunction tells whether a type is a function's.
func isFunction(x types.Type) bool {
	_, ok := x.(*types.Signature)
	return ok
}

func TestSumRangesOverAnInteger(t *testing.T) {
	if !rangesOver(t, "crc", types.IsInteger) {
		t.Error("crc: no loop over a range of an integer")
	}
}

func TestKeysAreGoneThroughByRanges(t *testing.T) {
	if !rangesOver(t, "key", types.IsInteger) {
		t.Error("key: no loop over a range of an integer")
	}
	if !rangesOver(t, "key", types.IsString) {
		t.Error("key: no loop over a text's letters")
	}
}

// fallsThrough tells whether a node of the text falls through to the next case of a switch.
func fallsThrough(n ast.Node) bool {
	x, ok := n.(*ast.BranchStmt)
	return ok && x.Tok == token.FALLTHROUGH
}

func TestLeavesFallThrough(t *testing.T) {
	if !has(t, files(t, token.NewFileSet(), "node"), fallsThrough) {
		t.Error("node: no switch falls through")
	}
}

func TestKindsFallThrough(t *testing.T) {
	if !has(t, files(t, token.NewFileSet(), "record"), fallsThrough) {
		t.Error("record: no switch falls through")
	}
}

// isLabelledLoop tells whether a node of the text is a loop that is ended by its label.
func isLabelledLoop(n ast.Node) bool {
	x, ok := n.(*ast.LabeledStmt)
	if !ok {
		return false
	}
	loop, ok := x.Stmt.(*ast.ForStmt)
	if !ok {
		return false
	}
	ended := false
	ast.Inspect(loop, func(n ast.Node) bool {
		if b, ok := n.(*ast.BranchStmt); ok && b.Tok == token.BREAK && b.Label != nil && b.Label.Name == x.Label.Name {
			ended = true
		}
		return !ended
	})
	return ended
}

func TestFramesAreGoneThroughByALabelledLoop(t *testing.T) {
	if !has(t, files(t, token.NewFileSet(), "wal"), isLabelledLoop) {
		t.Error("wal: no loop is ended by its label")
	}
}

// hasMap tells whether a node of the text is a struct of which a field is a map.
func hasMap(n ast.Node) bool {
	x, ok := n.(*ast.StructType)
	return ok && slices.ContainsFunc(x.Fields.List, func(f *ast.Field) bool {
		_, ok := f.Type.(*ast.MapType)
		return ok
	})
}

func TestPagesAreHeldInAMap(t *testing.T) {
	l := files(t, token.NewFileSet(), "pool")
	if !has(t, l, hasMap) {
		t.Error("pool: no field is a map")
	}
	if !has(t, l, calls("delete")) {
		t.Error("pool: no page is let go by delete")
	}
}

func TestKindsThatNeedThePageFallThrough(t *testing.T) {
	if !has(t, files(t, token.NewFileSet(), "redo"), fallsThrough) {
		t.Error("redo: no switch falls through")
	}
}

func TestBitsAreCountedByARange(t *testing.T) {
	if !rangesOver(t, "alloc", types.IsInteger) {
		t.Error("alloc: no loop over a range of an integer")
	}
}

func TestRowsAreGoneThroughByAnIterator(t *testing.T) {
	if !ranges(t, "blink", isFunction) {
		t.Error("blink: no loop over a function")
	}
}

func TestPhasesAreMethodValues(t *testing.T) {
	l, info := checked(t, "steps")
	selects := func(x ast.Expr, kind types.SelectionKind) bool {
		s, ok := x.(*ast.SelectorExpr)
		return ok && info.Selections[s] != nil && info.Selections[s].Kind() == kind
	}
	if !has(t, l, func(n ast.Node) bool {
		x, ok := n.(*ast.AssignStmt)
		return ok && len(x.Lhs) == 1 && selects(x.Lhs[0], types.FieldVal) && selects(x.Rhs[0], types.MethodVal)
	}) {
		t.Error("steps: no field is given a method value")
	}
}

// fallsThroughTo counts the cases that fall through to one that calls a method.
func fallsThroughTo(l []*ast.File, method string) int {
	count := 0
	for _, f := range l {
		ast.Inspect(f, func(n ast.Node) bool {
			x, ok := n.(*ast.SwitchStmt)
			if !ok {
				return true
			}
			for i, c := range x.Body.List {
				body := c.(*ast.CaseClause).Body
				if len(body) > 0 && fallsThrough(body[len(body)-1]) && callsMethod(x.Body.List[i+1], method) {
					count++
				}
			}
			return true
		})
	}
	return count
}

// callsMethod tells whether a method of that name is called somewhere in a node of the text.
func callsMethod(n ast.Node, method string) bool {
	found := false
	ast.Inspect(n, func(n ast.Node) bool {
		if x, ok := n.(*ast.CallExpr); ok {
			s, ok := x.Fun.(*ast.SelectorExpr)
			found = found || ok && s.Sel.Name == method
		}
		return !found
	})
	return found
}

func TestPhasesFallThroughToParting(t *testing.T) {
	if n := fallsThroughTo(files(t, token.NewFileSet(), "steps"), "part"); n < 2 {
		t.Errorf("steps: %d phases fall through to parting", n)
	}
}

// isArrayType tells whether a type is an array's.
func isArrayType(x types.Type) bool {
	_, ok := x.(*types.Array)
	return ok
}

func TestSlotsAreAnArrayThatIsRangedOver(t *testing.T) {
	if !ranges(t, "points", isArrayType) {
		t.Error("points: no loop over an array")
	}
}

func TestImagesFallThrough(t *testing.T) {
	if !has(t, files(t, token.NewFileSet(), "restart"), fallsThrough) {
		t.Error("restart: no switch falls through")
	}
}

// isCounted tells whether a node of the text is a constant that is counted.
func isCounted(n ast.Node) bool {
	x, ok := n.(*ast.ValueSpec)
	return ok && slices.ContainsFunc(x.Values, func(v ast.Expr) bool {
		name, ok := v.(*ast.Ident)
		return ok && name.Name == "iota"
	})
}

func TestStatesOfImagesAreCounted(t *testing.T) {
	if !has(t, files(t, token.NewFileSet(), "restart"), isCounted) {
		t.Error("restart: no constants are counted by iota")
	}
}

func TestQueuesAreCutAtTheirFront(t *testing.T) {
	if !has(t, files(t, token.NewFileSet(), "replay"), func(n ast.Node) bool {
		return isCutByThree(n) && n.(*ast.SliceExpr).Low != nil // without it nothing is cut off at the front
	}) {
		t.Error("replay: no slice with three indices is cut at its front")
	}
}

func TestWorkersAreCountedByARange(t *testing.T) {
	if !rangesOver(t, "replay", types.IsInteger) {
		t.Error("replay: no loop over a range of an integer")
	}
}

func TestKeysOfAMapAreBroughtInOrderByAnIterator(t *testing.T) {
	if !ranges(t, "fold", isFunction) {
		t.Error("fold: no loop over a function")
	}
}

// handsOn tells whether a node of the text calls a function of a package and hands a function literal on to it.
func handsOn(pack, name string) func(ast.Node) bool {
	return func(n ast.Node) bool {
		x, ok := n.(*ast.CallExpr)
		if !ok {
			return false
		}
		f, ok := x.Fun.(*ast.SelectorExpr)
		if !ok || f.Sel.Name != name {
			return false
		}
		from, ok := f.X.(*ast.Ident)
		return ok && from.Name == pack && slices.ContainsFunc(x.Args, isLiteral)
	}
}

// isLiteral tells whether an expression is a function literal.
func isLiteral(x ast.Expr) bool {
	_, ok := x.(*ast.FuncLit)
	return ok
}

func TestMarksAreFoundByAnOrderThatIsHandedOn(t *testing.T) {
	if !has(t, files(t, token.NewFileSet(), "line"), handsOn("slices", "BinarySearchFunc")) {
		t.Error("line: no order is handed on to a binary search")
	}
}

func TestRecordsThatFitAreToldByAnIterator(t *testing.T) {
	if !ranges(t, "ship", isFunction) {
		t.Error("ship: no loop over a function")
	}
}

func TestSetsAreGoneThroughByARange(t *testing.T) {
	if !rangesOver(t, "quorum", types.IsInteger) {
		t.Error("quorum: no loop over a range of an integer")
	}
}

func TestPromisesAreHeldAgainstEachOtherAsStructs(t *testing.T) {
	l, info := checked(t, "vote")
	isPromise := func(x ast.Expr) bool {
		named, ok := info.Types[x].Type.(*types.Named)
		return ok && named.Obj().Name() == "Promise"
	}
	if !has(t, l, func(n ast.Node) bool {
		x, ok := n.(*ast.BinaryExpr)
		return ok && (x.Op == token.EQL || x.Op == token.NEQ) && isPromise(x.X) && isPromise(x.Y)
	}) {
		t.Error("vote: no promise is held against another one")
	}
}

func TestPagesThatStayAreToldByAFunctionThatIsHandedOn(t *testing.T) {
	if !has(t, files(t, token.NewFileSet(), "rewind"), func(n ast.Node) bool {
		x, ok := n.(*ast.CallExpr)
		return ok && slices.ContainsFunc(x.Args, isLiteral)
	}) {
		t.Error("rewind: no function is handed on")
	}
}

func TestRequestsAreSortedByAFunctionThatIsHandedOn(t *testing.T) {
	if !has(t, files(t, token.NewFileSet(), "session"), handsOn("slices", "SortFunc")) {
		t.Error("session: no order is handed on")
	}
}

func TestRequestsWaitInAMap(t *testing.T) {
	l := files(t, token.NewFileSet(), "session")
	if !has(t, l, hasMap) {
		t.Error("session: no field is a map")
	}
	if !has(t, l, calls("delete")) {
		t.Error("session: what settles is not deleted")
	}
}

// isMethodValue tells whether an expression, which is not called, is a method of a value.
func isMethodValue(info *types.Info, x ast.Expr) bool {
	s, ok := x.(*ast.SelectorExpr)
	return ok && info.Selections[s] != nil && info.Selections[s].Kind() == types.MethodVal
}

// fieldsOf are the values of a row's fields.
func fieldsOf(x ast.Expr) []ast.Expr {
	row, ok := x.(*ast.CompositeLit)
	if !ok {
		return nil
	}
	var l []ast.Expr
	for _, e := range row.Elts {
		if field, ok := e.(*ast.KeyValueExpr); ok {
			e = field.Value
		}
		l = append(l, e)
	}
	return l
}

// rowsWith counts, of a literal whose type is such, the rows that have such a value in a field.
func rowsWith(t *testing.T, layer string, is func(types.Type) bool, holds func(*types.Info, ast.Expr) bool) int {
	t.Helper()
	l, info := checked(t, layer)
	count := 0
	for _, f := range l {
		ast.Inspect(f, func(n ast.Node) bool {
			x, ok := n.(*ast.CompositeLit)
			if !ok || !is(info.Types[x].Type.Underlying()) {
				return true
			}
			for _, row := range fieldsOf(x) {
				if slices.ContainsFunc(fieldsOf(row), func(v ast.Expr) bool { return holds(info, v) }) {
					count++
				}
			}
			return true
		})
	}
	return count
}

// isMapType tells whether a type is a map's.
func isMapType(x types.Type) bool {
	_, ok := x.(*types.Map)
	return ok
}

func TestMessagesDoWhatAMapSays(t *testing.T) {
	if n := rowsWith(t, "replica", isMapType, isMethodValue); n != 4 {
		t.Errorf("replica: %d rows of a map have a method value, not one a kind of messages", n)
	}
}

func TestChoicesDoWhatRowsSay(t *testing.T) {
	if n := rowsWith(t, "cluster", isMapType, isMethodValue); n != 10 {
		t.Errorf("cluster: %d rows have a method value, not one a kind of choices", n)
	}
}

func TestCommandsAreFunctionsInFieldsOfRows(t *testing.T) {
	isValue := func(info *types.Info, x ast.Expr) bool { return isFunction(info.Types[x].Type.Underlying()) }
	if n := rowsWith(t, "desk", isMapType, isValue); n != 13 {
		t.Errorf("desk: %d rows of a map have a function, not one a command", n)
	}
}

// recovers tells whether a node of the text has a function literal recover that is deferred.
func recovers(n ast.Node) bool {
	x, ok := n.(*ast.DeferStmt)
	if !ok || !isLiteral(x.Call.Fun) {
		return false
	}
	found := false
	ast.Inspect(x.Call.Fun, func(n ast.Node) bool {
		found = found || n != nil && calls("recover")(n)
		return !found
	})
	return found
}

// asks tells whether a node of the text is an assertion of which it is asked whether it holds.
func asks(n ast.Node) bool {
	x, ok := n.(*ast.AssignStmt)
	if !ok || len(x.Lhs) != 2 || len(x.Rhs) != 1 {
		return false
	}
	a, ok := x.Rhs[0].(*ast.TypeAssertExpr)
	return ok && a.Type != nil
}

func TestWhatIsBrokenGivesUpByAPanic(t *testing.T) {
	for _, layer := range []string{"replica", "desk"} {
		l := files(t, token.NewFileSet(), layer)
		if !has(t, l, recovers) {
			t.Errorf("%s: no function literal that is deferred recovers", layer)
		}
		if !has(t, l, calls("panic")) {
			t.Errorf("%s: nothing gives up by a panic", layer)
		}
		if !has(t, l, asks) {
			t.Errorf("%s: no assertion tells whose panic it is", layer)
		}
	}
}

func TestRulesAreFunctionsInFieldsOfRows(t *testing.T) {
	isList := func(x types.Type) bool {
		_, ok := x.(*types.Slice)
		return ok
	}
	if n := rowsWith(t, "trace", isList, isMethodValue); n != 6 {
		t.Errorf("trace: %d rows have a rule's function, not one a rule", n)
	}
}
