package scope

import (
	"fmt"
	"reflect"
	"slices"
	"testing"

	"paling/api"
	"paling/parse"
	"paling/tree"
)

// The calls below say what is free as the chapter does, function by function, each with its own names in a list: every name that is used, as often as it is, from within to without.

// uses: the names that a function uses where they aren't its own.
func uses(e tree.Expr) []string { return without(usesOfBlock(e.Body), e.Params) }

// without: names but some.
func without(l, some []string) []string {
	var out []string
	for _, n := range l {
		if !slices.Contains(some, n) {
			out = append(out, n)
		}
	}
	return out
}

// usesOfBlock: those of the first statement, and those of the others but for what the first lets.
func usesOfBlock(l []tree.Stmt) []string {
	if len(l) == 0 {
		return nil
	}
	behind := usesOfBlock(l[1:])
	if l[0].Kind == tree.Let {
		behind = without(behind, []string{l[0].Name})
	}
	return append(usesOfStmt(l[0]), behind...)
}

func usesOfStmt(s tree.Stmt) []string {
	var out []string
	for _, e := range s.Exprs {
		out = append(out, usesOfExpr(e)...)
	}
	if s.Kind == tree.Assign {
		out = append(out, s.Name)
	}
	out = append(out, usesOfBlock(s.Body)...)
	otherwise := usesOfBlock(s.Else)
	if s.Kind == tree.Try {
		otherwise = without(otherwise, []string{s.Name})
	}
	return append(out, otherwise...)
}

func usesOfExpr(e tree.Expr) []string {
	if e.Op == tree.Name {
		return []string{e.Text}
	}
	if e.Op == tree.Fn {
		return uses(e)
	}
	var out []string
	for _, p := range e.Parts {
		out = append(out, usesOfExpr(p)...)
	}
	return out
}

// plain: what is free.
func plain(e tree.Expr) []string {
	var out []string
	for _, n := range uses(e) {
		if !slices.Contains(out, n) {
			out = append(out, n)
		}
	}
	return out
}

// held: Free answers of a function what the plain one does.
func held(t *testing.T, e tree.Expr) {
	t.Helper()
	if got, want := Free(e), plain(e); !slices.Equal(got, want) {
		t.Fatalf("%s: %q, not %q", e, got, want)
	}
}

func fn(params []string, body ...tree.Stmt) tree.Expr {
	return tree.Expr{Op: tree.Fn, Params: params, Body: body}
}

// small: statements of two names, which have in their blocks those within.
func small(within [][]tree.Stmt) []tree.Stmt {
	a, b := tree.Expr{Op: tree.Name, Text: "a"}, tree.Expr{Op: tree.Name, Text: "b"}
	one := func(e tree.Expr) []tree.Expr { return []tree.Expr{e} }
	l := []tree.Stmt{
		{Kind: tree.Do, Exprs: one(a)},
		{Kind: tree.Do, Exprs: one(b)},
		{Kind: tree.Let, Name: "a", Exprs: one(tree.Expr{})},
		{Kind: tree.Let, Name: "b", Exprs: one(a)},
		{Kind: tree.Assign, Name: "a", Exprs: one(b)},
		{Kind: tree.Put, Exprs: []tree.Expr{b, {Op: tree.Text, Text: "a"}, a}},
	}
	for _, w := range within {
		l = append(l,
			tree.Stmt{Kind: tree.If, Exprs: one(b), Body: w, Else: []tree.Stmt{{Kind: tree.Return, Exprs: one(a)}}},
			tree.Stmt{Kind: tree.While, Exprs: one(tree.Expr{Op: tree.True}), Body: w},
			tree.Stmt{Kind: tree.Try, Name: "a", Body: w},
			tree.Stmt{Kind: tree.Try, Name: "a", Else: w},
			tree.Stmt{Kind: tree.Throw, Exprs: one(fn([]string{"b"}, w...))},
		)
	}
	return l
}

// pairs: all blocks of at most two of those statements.
func pairs(l []tree.Stmt) [][]tree.Stmt {
	out := [][]tree.Stmt{nil}
	for _, s := range l {
		out = append(out, []tree.Stmt{s})
		for _, s2 := range l {
			out = append(out, []tree.Stmt{s, s2})
		}
	}
	return out
}

func TestAllSmallFunctions(t *testing.T) { // P8.2
	l := small(pairs(small(nil)))
	for _, s := range l {
		held(t, fn(nil, s))
		for _, s2 := range l {
			held(t, fn(nil, s, s2))
			held(t, fn([]string{"a"}, s, s2))
		}
	}
	for _, s := range small(pairs(small([][]tree.Stmt{nil, {{Kind: tree.Let, Name: "a", Exprs: []tree.Expr{{}}}}, {{Kind: tree.Do, Exprs: []tree.Expr{{Op: tree.Name, Text: "a"}}}}}))) {
		for _, s2 := range small(nil) {
			held(t, fn(nil, s, s2))
			held(t, fn(nil, s2, s))
			held(t, fn([]string{"b"}, s2, s))
		}
	}
}

// numbers: some below n, the same at each run.
func numbers(seed uint64) func(n int) int {
	return func(n int) int {
		seed = seed*6364136223846793005 + 1442695040888963407
		return int((seed >> 33) % uint64(n))
	}
}

// maker makes trees such as are read.
type maker struct{ next func(n int) int }

func (m maker) name() string {
	return []string{"a", "b", "c", "d", "e", "len", "text", "x"}[m.next(8)]
}

func (m maker) exprs(n, deep int) []tree.Expr {
	l := make([]tree.Expr, n)
	for i := range l {
		l[i] = m.expr(deep)
	}
	return l
}

func (m maker) expr(deep int) tree.Expr {
	op := tree.Op(m.next(int(tree.Ops)))
	if deep == 0 || m.next(4) == 0 {
		op = []tree.Op{tree.Name, tree.Name, tree.Name, tree.Text}[m.next(4)]
	}
	e := tree.Expr{Op: op}
	switch {
	case op == tree.Number:
		e.Num = int64(m.next(3))
	case op == tree.Text || op == tree.Name:
		e.Text = m.name()
	case op == tree.Minus || op == tree.Not:
		e.Parts = m.exprs(1, deep-1)
	case op >= tree.Add && op <= tree.Field:
		e.Parts = m.exprs(2, deep-1)
	case op == tree.Call:
		e.Parts = m.exprs(1+m.next(4), deep-1)
	case op == tree.Record:
		e.Parts = m.exprs(2*m.next(4), deep-1)
	case op == tree.Fn:
		e = m.fn(deep)
	}
	return e
}

func (m maker) fn(deep int) tree.Expr {
	e := tree.Expr{Op: tree.Fn}
	for range m.next(4) {
		e.Params = append(e.Params, m.name())
	}
	e.Body = m.stmts(deep - 1)
	return e
}

func (m maker) stmts(deep int) []tree.Stmt {
	l := make([]tree.Stmt, m.next(5))
	for i := range l {
		l[i] = m.stmt(deep)
	}
	return l
}

func (m maker) stmt(deep int) tree.Stmt {
	s := tree.Stmt{Kind: tree.Kind(m.next(int(tree.Kinds)))}
	if deep == 0 {
		s.Kind = []tree.Kind{tree.Let, tree.Assign, tree.Put, tree.Return, tree.Throw, tree.Do}[m.next(6)]
	}
	if s.Kind == tree.Let || s.Kind == tree.Assign || s.Kind == tree.Try {
		s.Name = m.name()
	}
	if s.Kind == tree.Put {
		s.Exprs = m.exprs(3, deep)
	} else if s.Kind != tree.Try {
		s.Exprs = m.exprs(1, deep)
	}
	if s.Kind == tree.If || s.Kind == tree.While || s.Kind == tree.Try {
		s.Body = m.stmts(deep - 1)
	}
	if s.Kind == tree.If || s.Kind == tree.Try {
		s.Else = m.stmts(deep - 1)
	}
	return s
}

func TestManyFunctions(t *testing.T) { // P8.2
	m := maker{numbers(81)}
	some, none := 0, 0
	for range 20000 {
		e := m.fn(1 + m.next(4))
		held(t, e)
		free := Free(e)
		if len(free) > 0 {
			some++
		} else {
			none++
		}
		// Where its free names are parameters too it has none.
		closed := e
		closed.Params = append(slices.Clone(e.Params), free...)
		if got := Free(closed); len(got) != 0 {
			t.Fatalf("%s: %q", closed, got)
		}
		// A function around it that has nothing of its own has the same.
		if got := Free(fn(nil, tree.Stmt{Kind: tree.Do, Exprs: []tree.Expr{e}})); !slices.Equal(got, free) {
			t.Fatalf("%s: %q, not %q", e, got, free)
		}
		// Each of them is a parameter of one around it: only the others are free.
		for _, n := range free {
			if got := Free(fn([]string{n}, tree.Stmt{Kind: tree.Do, Exprs: []tree.Expr{e}})); !slices.Equal(got, without(free, []string{n})) {
				t.Fatalf("%s: %q", e, got)
			}
		}
	}
	if some < 4000 || none < 2000 {
		t.Errorf("%d have free names, %d have none", some, none)
	}
}

func TestWhatIsReadHasTheSame(t *testing.T) { // P8.2: of trees of parse, wherever statements stand
	m := maker{numbers(82)}
	for range 3000 {
		e := m.fn(3)
		l, at, errno := parse.Parse(e.String() + ";")
		if errno == api.ErrDeep || errno == api.ErrSize {
			continue
		}
		if errno != api.OK {
			t.Fatalf("%s: place %d, error %d", e, at, errno)
		}
		held(t, l[0].Exprs[0])
		if got, want := Free(l[0].Exprs[0]), Free(e); !slices.Equal(got, want) {
			t.Fatalf("%s: %q, not %q", e, got, want)
		}
	}
}

func TestNothingIsChangedOrShared(t *testing.T) { // R5, R6: asked again it answers the same, in new memory
	m := maker{numbers(83)}
	for range 500 {
		e := m.fn(3)
		room := make([]string, len(e.Params), len(e.Params)+4)
		copy(room, e.Params)
		e.Params = room
		body := make([]tree.Stmt, len(e.Body), len(e.Body)+4)
		copy(body, e.Body)
		e.Body = body
		was := fmt.Sprintf("%#v", e)
		first := Free(e)
		want := slices.Clone(first)
		for i := range first {
			first[i] = "?"
		}
		_ = append(first, "?", "?")
		second := Free(e)
		if !slices.Equal(second, want) {
			t.Fatalf("%s: %q, not %q", e, second, want)
		}
		if got := fmt.Sprintf("%#v", e); got != was {
			t.Fatalf("%s, not %s", got, was)
		}
		for _, n := range room[len(room):cap(room)] {
			if n != "" {
				t.Fatalf("%s: %q behind its parameters", e, n)
			}
		}
		for _, s := range body[len(body):cap(body)] {
			if !reflect.DeepEqual(s, tree.Stmt{}) {
				t.Fatalf("%s: something behind its body", e)
			}
		}
	}
}

func TestNoOtherTreePanics(t *testing.T) { // P1: nothing is promised of them but that
	Free(tree.Expr{})
	for op := tree.Op(-1); op <= tree.Ops; op++ {
		Free(tree.Expr{Op: op})
		for kind := tree.Kind(-1); kind <= tree.Kinds; kind++ {
			Free(fn(nil, tree.Stmt{Kind: kind}, tree.Stmt{Kind: kind, Name: "a", Exprs: []tree.Expr{{Op: op}}}))
		}
	}
}
