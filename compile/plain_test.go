package compile

import (
	"maps"
	"slices"
	"strconv"
	"testing"

	"paling/api"
	"paling/code"
	"paling/parse"
	"paling/scope"
	"paling/tree"
)

// The calls below say what goes wrong in a tree as the chapter does, but for ErrSize: names are in maps, one a block.

// wrong is what goes wrong, and where; or nothing.
type wrong struct {
	at int
	e  api.Errno
}

// names are those that are seen: whether they are held.
type names map[string]bool

// first: the first one of some that is wrong.
func first[T any](l []T, ask func(T) wrong) wrong {
	for _, x := range l {
		if w := ask(x); w.e != api.OK {
			return w
		}
	}
	return wrong{}
}

func wrongBlock(l []tree.Stmt, around names) wrong {
	seen := maps.Clone(around)
	return first(l, func(s tree.Stmt) wrong {
		w := wrongStmt(s, seen)
		if s.Kind == tree.Let {
			seen[s.Name] = false
		}
		return w
	})
}

func wrongStmt(s tree.Stmt, seen names) wrong {
	held, is := seen[s.Name]
	twice := wrong{}
	if is {
		twice = wrong{s.At, api.ErrTwice}
	}
	values := first(s.Exprs, func(e tree.Expr) wrong { return wrongExpr(e, seen, s.At) })
	body := wrongBlock(s.Body, seen)
	within := seen
	switch s.Kind {
	case tree.Let:
		return either(values, twice)
	case tree.Assign:
		if !is {
			return wrong{s.At, api.ErrNone}
		}
		if held {
			return wrong{s.At, api.ErrKind}
		}
	case tree.Try:
		if is {
			return either(body, twice)
		}
		within = maps.Clone(seen)
		within[s.Name] = false
	}
	return either(values, body, wrongBlock(s.Else, within))
}

// either: the first one that is wrong.
func either(l ...wrong) wrong { return first(l, func(w wrong) wrong { return w }) }

func wrongExpr(e tree.Expr, seen names, at int) wrong {
	if e.Op == tree.Name {
		if _, ok := seen[e.Text]; !ok && scope.Word(e.Text) < 0 {
			return wrong{at, api.ErrNone}
		}
	}
	if e.Op != tree.Fn {
		return first(e.Parts, func(p tree.Expr) wrong { return wrongExpr(p, seen, at) })
	}
	within := names{}
	for _, p := range e.Params {
		if _, ok := within[p]; ok {
			return wrong{at, api.ErrTwice}
		}
		within[p] = false
	}
	for n := range seen {
		if slices.Contains(scope.Free(e), n) {
			within[n] = true
		}
	}
	return wrongBlock(e.Body, within)
}

// held: what goes wrong in a module, or what it does, is what the plain calls tell; whether it went well.
func held(t *testing.T, l []tree.Stmt, fuel int) bool {
	t.Helper()
	want := wrongBlock(l, names{})
	m, at, e := Module(l)
	if at != want.at || e != want.e {
		t.Fatalf("%s: place %d, error %d, not %d, %d", tree.Print(l), at, e, want.at, want.e)
	}
	if e != api.OK {
		if len(m.Funcs) > 0 {
			t.Fatalf("%s: error %d, and functions", tree.Print(l), e)
		}
		return false
	}
	does(t, l, fuel)
	like(t, l, m)
	return true
}

// like: a module has its tree's functions: so many, with so many parameters, which hold so much.
func like(t *testing.T, l []tree.Stmt, m code.Module) {
	t.Helper()
	var got, want [][2]int
	for _, f := range m.Funcs {
		got = append(got, [2]int{f.Params, len(f.Held)})
	}
	shapes(tree.Expr{Op: tree.Fn, Body: l}, nil, func(params, held int) { want = append(want, [2]int{params, held}) })
	// Which number a function has is free, but for the module's own.
	order := func(a, b [2]int) int { return slices.Compare(a[:], b[:]) }
	slices.SortFunc(got[1:], order)
	slices.SortFunc(want[1:], order)
	if !slices.Equal(got, want) {
		t.Fatalf("%s: parameters, held: %v, not %v", tree.Print(l), got, want)
	}
}

// shapes: of each function how many parameters it has, and how much it holds.
func shapes(e tree.Expr, seen []string, tell func(params, held int)) {
	own := slices.Clone(e.Params)
	for _, n := range scope.Free(e) {
		if slices.Contains(seen, n) {
			own = append(own, n)
		}
	}
	tell(len(e.Params), len(own)-len(e.Params))
	shapesBlock(e.Body, own, tell)
}

func shapesBlock(l []tree.Stmt, seen []string, tell func(params, held int)) {
	seen = slices.Clone(seen)
	for _, s := range l {
		for _, e := range s.Exprs {
			shapesExpr(e, seen, tell)
		}
		shapesBlock(s.Body, seen, tell)
		switch s.Kind {
		case tree.Try:
			shapesBlock(s.Else, append(slices.Clone(seen), s.Name), tell)
		case tree.Let:
			seen = append(seen, s.Name)
		default:
			shapesBlock(s.Else, seen, tell)
		}
	}
}

func shapesExpr(e tree.Expr, seen []string, tell func(params, held int)) {
	if e.Op == tree.Fn {
		shapes(e, seen, tell)
	}
	for _, p := range e.Parts {
		shapesExpr(p, seen, tell)
	}
}

// reread: the same statements, each with its place; false where they are more than what is read.
func reread(t *testing.T, l []tree.Stmt) ([]tree.Stmt, bool) {
	t.Helper()
	out, at, e := parse.Parse(tree.Print(l))
	if e == api.ErrDeep || e == api.ErrSize {
		return nil, false
	}
	if e != api.OK {
		t.Fatalf("%s: place %d, error %d", tree.Print(l), at, e)
	}
	return out, true
}

func name(s string) tree.Expr { return tree.Expr{Op: tree.Name, Text: s} }

func one(e tree.Expr) []tree.Expr { return []tree.Expr{e} }

func fn(params []string, body ...tree.Stmt) tree.Expr {
	return tree.Expr{Op: tree.Fn, Params: params, Body: body}
}

// small: statements of two names, which have in their blocks those within.
func small(within [][]tree.Stmt) []tree.Stmt {
	a, b := name("a"), name("b")
	l := []tree.Stmt{
		{Kind: tree.Do, Exprs: one(a)},
		{Kind: tree.Return, Exprs: one(b)},
		{Kind: tree.Let, Name: "a", Exprs: one(tree.Expr{Op: tree.Number, Num: 7})},
		{Kind: tree.Let, Name: "b", Exprs: one(a)},
		{Kind: tree.Assign, Name: "a", Exprs: one(b)},
		{Kind: tree.Put, Exprs: []tree.Expr{b, {Op: tree.Text, Text: "a"}, a}},
	}
	for _, w := range within {
		l = append(l,
			tree.Stmt{Kind: tree.If, Exprs: one(b), Body: w, Else: []tree.Stmt{{Kind: tree.Return, Exprs: one(a)}}},
			tree.Stmt{Kind: tree.While, Exprs: one(tree.Expr{Op: tree.True}), Body: w},
			tree.Stmt{Kind: tree.Try, Name: "a", Body: w},
			tree.Stmt{Kind: tree.Try, Name: "a", Body: []tree.Stmt{{Kind: tree.Throw, Exprs: one(tree.Expr{})}}, Else: w},
			tree.Stmt{Kind: tree.Let, Name: "b", Exprs: one(tree.Expr{Op: tree.Call, Parts: one(fn([]string{"b"}, w...))})},
			tree.Stmt{Kind: tree.Do, Exprs: one(tree.Expr{Op: tree.Call, Parts: []tree.Expr{fn([]string{"a"}, w...), a}})},
			tree.Stmt{Kind: tree.Assign, Name: "a", Exprs: one(tree.Expr{Op: tree.Call, Parts: one(fn(nil, w...))})},
		)
	}
	return l
}

// pairs: all blocks of at most two of those statements.
func pairs(l []tree.Stmt) [][]tree.Stmt {
	out := [][]tree.Stmt{nil}
	for _, s := range l {
		out = append(out, []tree.Stmt{s})
		for _, s2 := range l {
			out = append(out, []tree.Stmt{s, s2})
		}
	}
	return out
}

func TestAllSmallModules(t *testing.T) { // P10.1: what goes wrong first, and where; and what is done
	number := tree.Stmt{Kind: tree.Let, Name: "a", Exprs: one(tree.Expr{Op: tree.Number, Num: 5})}
	right, many := 0, 0
	try := func(l ...tree.Stmt) {
		read, ok := reread(t, l)
		if !ok {
			t.Fatalf("%s isn't read", tree.Print(l))
		}
		many++
		if held(t, read, 5) {
			right++
		}
	}
	l := small(pairs(small(nil)))
	for _, s := range l {
		try(s)
		try(number, s)
		try(tree.Stmt{Kind: tree.Do, Exprs: one(fn([]string{"b"}, number, s))})
		try(number, tree.Stmt{Kind: tree.Return, Exprs: one(tree.Expr{Op: tree.Call, Parts: []tree.Expr{fn([]string{"b"}, s), {Op: tree.Record}}})})
		for _, s2 := range small(nil) {
			try(number, s, s2)
			try(number, s2, s)
		}
		for _, s2 := range small(pairs(small(nil)[2:5])) {
			try(number, tree.Stmt{Kind: tree.Let, Name: "b", Exprs: one(tree.Expr{Op: tree.Record})}, s, s2)
		}
	}
	if right < many/20 || right > many/2 {
		t.Errorf("%d of %d go well", right, many)
	}
}

// numbers: some below n, the same at each run.
func numbers(seed uint64) func(n int) int {
	return func(n int) int {
		seed = seed*6364136223846793005 + 1442695040888963407
		return int((seed >> 33) % uint64(n))
	}
}

// writer makes trees such as are read; of one that goes wrong now and then, any, else never, by the chapter's words on names.
type writer struct {
	next  func(n int) int
	any   bool
	names *int // how many names were made
}

// known are the names that are seen, and those that may be set.
type known struct{ seen, own []string }

func (k known) and(n string) known {
	return known{append(slices.Clone(k.seen), n), append(slices.Clone(k.own), n)}
}

func pick(w writer, l []string) string { return l[w.next(len(l))] }

// fresh: a name that isn't seen; or any.
func (w writer) fresh() string {
	if w.any && w.next(3) == 0 {
		return pick(w, []string{"a", "b", "c", "len", "text"})
	}
	*w.names++
	return "n" + strconv.Itoa(*w.names)
}

func (w writer) name(k known) string {
	if w.any && w.next(30) == 0 {
		return pick(w, []string{"a", "b", "c"})
	}
	return pick(w, append([]string{"len", "kind", "text", "text"}, k.seen...))
}

func (w writer) exprs(n, deep int, k known) []tree.Expr {
	l := make([]tree.Expr, n)
	for i := range l {
		l[i] = w.expr(deep, k)
	}
	return l
}

func (w writer) expr(deep int, k known) tree.Expr {
	op := tree.Op(w.next(int(tree.Ops)))
	if deep == 0 || w.next(3) == 0 {
		op = []tree.Op{tree.Name, tree.Name, tree.Number, tree.Text}[w.next(4)]
	}
	e := tree.Expr{Op: op}
	switch {
	case op == tree.Number:
		e.Num = int64(w.next(3))
	case op == tree.Text:
		e.Text = pick(w, []string{"a", "b", "c"})
	case op == tree.Name:
		e.Text = w.name(k)
	case op == tree.Minus || op == tree.Not:
		e.Parts = w.exprs(1, deep-1, k)
	case op >= tree.Add && op <= tree.Field:
		e.Parts = w.exprs(2, deep-1, k)
	case op == tree.Call && w.next(2) == 0:
		e.Parts = append(one(w.fn(deep-1, k)), w.exprs(w.next(4), deep-1, k)...)
	case op == tree.Call:
		e.Parts = append(one(name(w.name(k))), w.exprs(w.next(4), deep-1, k)...)
	case op == tree.Record:
		for range w.next(4) {
			e.Parts = append(e.Parts, tree.Expr{Op: tree.Text, Text: pick(w, []string{"a", "b"})}, w.expr(deep-1, k))
		}
	case op == tree.Fn:
		e = w.fn(deep-1, k)
	}
	return e
}

func (w writer) fn(deep int, k known) tree.Expr {
	e := tree.Expr{Op: tree.Fn}
	in := known{seen: k.seen}
	for range w.next(4) {
		p := w.fresh()
		e.Params = append(e.Params, p)
		in = in.and(p)
	}
	e.Body = w.block(max(deep, 0), in)
	return e
}

func (w writer) block(deep int, k known) []tree.Stmt {
	var l []tree.Stmt
	for range w.next(5) {
		s := w.stmt(deep, k)
		l = append(l, s)
		if s.Kind == tree.Let {
			k = k.and(s.Name)
		}
	}
	return l
}

func (w writer) stmt(deep int, k known) tree.Stmt {
	s := tree.Stmt{Kind: []tree.Kind{tree.Let, tree.Let, tree.Assign, tree.Assign, tree.Put, tree.If, tree.If, tree.While, tree.Return, tree.Throw, tree.Try, tree.Try, tree.Do, tree.Do}[w.next(14)]}
	blocks := s.Kind == tree.If || s.Kind == tree.While || s.Kind == tree.Try
	if deep == 0 && blocks || s.Kind == tree.Assign && len(k.own) == 0 {
		s.Kind = tree.Let
		blocks = false
	}
	n := 1
	switch s.Kind {
	case tree.Let, tree.Try:
		s.Name = w.fresh()
	case tree.Assign:
		s.Name = pick(w, k.own)
		if w.any && w.next(5) == 0 {
			s.Name = w.name(k)
		}
	}
	if s.Kind == tree.Put {
		n = 3
	} else if s.Kind == tree.Try {
		n = 0
	}
	s.Exprs = w.exprs(n, deep, k)
	if !blocks {
		return s
	}
	s.Body = w.block(deep-1, k)
	if s.Kind == tree.If {
		s.Else = w.block(deep-1, k)
	} else if s.Kind == tree.Try {
		s.Else = w.block(deep-1, k.and(s.Name))
	}
	return s
}

func TestManyModules(t *testing.T) { // P10.1: what is made does what the tree means, in its order
	made := 0
	w := writer{next: numbers(101), names: &made}
	many := 0
	for range 20000 {
		l, ok := reread(t, w.block(1+w.next(4), known{}))
		if !ok {
			continue
		}
		if !held(t, l, 30) {
			t.Fatalf("%s goes wrong", tree.Print(l))
		}
		many++
	}
	if many < 15000 {
		t.Errorf("%d modules", many)
	}
}

func TestManyMistakenModules(t *testing.T) { // P10.1: what goes wrong first, and where
	made := 0
	w := writer{next: numbers(102), any: true, names: &made}
	right, mistaken := 0, 0
	for range 40000 {
		l, ok := reread(t, w.block(1+w.next(4), known{}))
		if !ok {
			continue
		}
		if held(t, l, 30) {
			right++
		} else {
			mistaken++
		}
	}
	if right < 5000 || mistaken < 5000 {
		t.Errorf("%d go well, %d go wrong", right, mistaken)
	}
}
