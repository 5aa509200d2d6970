package tree

import (
	"fmt"
	"math"
	"reflect"
	"slices"
	"strings"
	"testing"

	"paling/api"
	"paling/lex"
)

func name(s string) Expr { return Expr{Op: Name, Text: s} }

func num(n int64) Expr { return Expr{Op: Number, Num: n} }

func txt(s string) Expr { return Expr{Op: Text, Text: s} }

func of(op Op, parts ...Expr) Expr { return Expr{Op: op, Parts: parts} }

func fn(params []string, body ...Stmt) Expr { return Expr{Op: Fn, Params: params, Body: body} }

func do(e Expr) Stmt { return Stmt{Kind: Do, Exprs: []Expr{e}} }

func block(l ...Stmt) []Stmt { return l }

// Names that stand for any part.
var x, y, z = name("x"), name("y"), name("z")

func TestOpsAndKindsAreNumberedInOrder(t *testing.T) { // chapter 6, Types
	for i, o := range []Op{Nil, False, True, Number, Text, Name, Minus, Not, Add, Sub, Mul, Equal, Unlike, Less, Field, Call, Record, Fn, Ops} {
		if int(o) != i {
			t.Errorf("op %d has the number %d", i, o)
		}
	}
	for i, k := range []Kind{Let, Assign, Put, If, While, Return, Throw, Try, Do, Kinds} {
		if int(k) != i {
			t.Errorf("kind %d has the number %d", i, k)
		}
	}
}

func TestTheChaptersExample(t *testing.T) { // P6.2
	s := Stmt{Kind: Put, Exprs: []Expr{name("a"), txt("k"), of(Add, num(1), num(2))}}
	if got := s.String(); got != "a[\"k\"] = (1 + 2);\n" {
		t.Errorf("%q", got)
	}
}

func TestExpressionsAreTold(t *testing.T) { // P6.2: each op, alone and within others
	for _, c := range []struct {
		e    Expr
		want string
	}{
		{Expr{}, `nil`},
		{of(Nil), `nil`},
		{of(False), `false`},
		{of(True), `true`},
		{num(0), `0`},
		{num(7), `7`},
		{num(1234567890), `1234567890`},
		{num(math.MaxInt64), `9223372036854775807`},
		{txt(""), `""`},
		{txt("a b"), `"a b"`},
		{txt("a\"b\\c\nd"), `"a\"b\\c\nd"`},
		{txt("nil"), `"nil"`},
		{x, `x`},
		{name("a_B9"), `a_B9`},
		{of(Minus, x), `(-x)`},
		{of(Minus, num(1)), `(-1)`},
		{of(Not, x), `(!x)`},
		{of(Minus, of(Minus, x)), `(-(-x))`},
		{of(Not, of(Minus, of(Not, x))), `(!(-(!x)))`},
		{of(Add, x, y), `(x + y)`},
		{of(Sub, x, y), `(x - y)`},
		{of(Mul, x, y), `(x * y)`},
		{of(Equal, x, y), `(x == y)`},
		{of(Unlike, x, y), `(x != y)`},
		{of(Less, x, y), `(x < y)`},
		{of(Add, of(Add, x, y), z), `((x + y) + z)`},
		{of(Add, x, of(Add, y, z)), `(x + (y + z))`},
		{of(Mul, of(Sub, x, num(1)), of(Minus, y)), `((x - 1) * (-y))`},
		{of(Equal, of(Less, x, y), of(Unlike, y, z)), `((x < y) == (y != z))`},
		{of(Field, x, y), `x[y]`},
		{of(Field, x, txt("k")), `x["k"]`},
		{of(Field, of(Field, x, num(1)), of(Field, y, z)), `x[1][y[z]]`},
		{of(Field, of(Minus, x), y), `(-x)[y]`},
		{of(Field, num(1), txt("a")), `1["a"]`},
		{of(Call, x), `x()`},
		{of(Call, x, y), `x(y)`},
		{of(Call, x, y, z), `x(y, z)`},
		{of(Call, x, y, z, num(3), x), `x(y, z, 3, x)`},
		{of(Call, of(Call, x, y), of(Call, z)), `x(y)(z())`},
		{of(Call, of(Add, x, y), of(Sub, x, y)), `(x + y)((x - y))`},
		{of(Call, of(Field, x, txt("f")), y), `x["f"](y)`},
		{of(Record), `{}`},
		{of(Record, x, y), `{[x]: y}`},
		{of(Record, txt("a"), num(1), num(2), txt("b")), `{["a"]: 1, [2]: "b"}`},
		{of(Record, x, y, y, z, z, x), `{[x]: y, [y]: z, [z]: x}`},
		{of(Record, of(Add, x, y), of(Record)), `{[(x + y)]: {}}`},
		{of(Field, of(Record, x, y), x), `{[x]: y}[x]`},
		{fn(nil), "fn() {\n}"},
		{fn([]string{"a"}), "fn(a) {\n}"},
		{fn([]string{"a", "b"}), "fn(a, b) {\n}"},
		{fn([]string{"a", "b", "a"}, do(x), do(y)), "fn(a, b, a) {\nx;\ny;\n}"},
		{fn(nil, do(fn(nil, do(x)))), "fn() {\nfn() {\nx;\n};\n}"},
		{of(Call, fn([]string{"a"}, do(x)), y), "fn(a) {\nx;\n}(y)"},
		{of(Add, fn(nil), fn(nil)), "(fn() {\n} + fn() {\n})"},
	} {
		if got := c.e.String(); got != c.want {
			t.Errorf("%#v: %q, not %q", c.e, got, c.want)
		}
	}
}

func TestStatementsAreTold(t *testing.T) { // P6.2: each kind, with a line feed behind
	for _, c := range []struct {
		s    Stmt
		want string
	}{
		{Stmt{Kind: Let, Name: "n", Exprs: []Expr{x}}, "let n = x;\n"},
		{Stmt{Kind: Let, Name: "n", Exprs: []Expr{of(Add, x, y)}}, "let n = (x + y);\n"},
		{Stmt{Kind: Assign, Name: "n", Exprs: []Expr{x}}, "n = x;\n"},
		{Stmt{Kind: Assign, Name: "n", Exprs: []Expr{fn(nil)}}, "n = fn() {\n};\n"},
		{Stmt{Kind: Put, Exprs: []Expr{x, y, z}}, "x[y] = z;\n"},
		{Stmt{Kind: Put, Exprs: []Expr{of(Field, x, y), of(Minus, y), of(Record)}}, "x[y][(-y)] = {};\n"},
		{Stmt{Kind: Put, Exprs: []Expr{of(Call, x), txt("k"), of(Nil)}}, "x()[\"k\"] = nil;\n"},
		{Stmt{Kind: Return, Exprs: []Expr{x}}, "return x;\n"},
		{Stmt{Kind: Return, Exprs: []Expr{of(Nil)}}, "return nil;\n"},
		{Stmt{Kind: Throw, Exprs: []Expr{txt("no")}}, "throw \"no\";\n"},
		{do(x), "x;\n"},
		{do(of(Record)), "{};\n"},
		{do(of(Call, x, y)), "x(y);\n"},
		{Stmt{Kind: If, Exprs: []Expr{x}}, "if x {\n}\n"},
		{Stmt{Kind: If, Exprs: []Expr{x}, Body: block(do(y))}, "if x {\ny;\n}\n"},
		{Stmt{Kind: If, Exprs: []Expr{x}, Body: block(do(y), do(z))}, "if x {\ny;\nz;\n}\n"},
		{Stmt{Kind: If, Exprs: []Expr{x}, Body: block(do(y)), Else: block(do(z))}, "if x {\ny;\n} else {\nz;\n}\n"},
		{Stmt{Kind: If, Exprs: []Expr{x}, Else: block(do(z), do(y))}, "if x {\n} else {\nz;\ny;\n}\n"},
		{Stmt{Kind: If, Exprs: []Expr{x}, Body: block(do(y)), Else: block()}, "if x {\ny;\n}\n"},
		{Stmt{Kind: If, Exprs: []Expr{of(Record)}, Body: []Stmt{}, Else: []Stmt{}}, "if {} {\n}\n"},
		{Stmt{Kind: While, Exprs: []Expr{of(Less, x, y)}}, "while (x < y) {\n}\n"},
		{Stmt{Kind: While, Exprs: []Expr{of(True)}, Body: block(do(y), do(z))}, "while true {\ny;\nz;\n}\n"},
		{Stmt{Kind: Try, Name: "e"}, "try {\n} catch e {\n}\n"},
		{Stmt{Kind: Try, Name: "e", Body: block(do(x))}, "try {\nx;\n} catch e {\n}\n"},
		{Stmt{Kind: Try, Name: "e", Else: block(do(x))}, "try {\n} catch e {\nx;\n}\n"},
		{Stmt{Kind: Try, Name: "e", Body: block(do(x), do(y)), Else: block(do(z), do(x))}, "try {\nx;\ny;\n} catch e {\nz;\nx;\n}\n"},
		{Stmt{Kind: While, Exprs: []Expr{x}, Body: block(
			Stmt{Kind: If, Exprs: []Expr{y}, Body: block(Stmt{Kind: Try, Name: "e", Else: block(Stmt{Kind: Throw, Exprs: []Expr{name("e")}})})})},
			"while x {\nif y {\ntry {\n} catch e {\nthrow e;\n}\n}\n}\n"},
	} {
		if got := c.s.String(); got != c.want {
			t.Errorf("%#v: %q, not %q", c.s, got, c.want)
		}
		// Where it stands isn't told.
		c.s.At = 99
		if got := c.s.String(); got != c.want {
			t.Errorf("%#v at 99: %q, not %q", c.s, got, c.want)
		}
	}
}

func TestPrintTellsOneBehindTheOther(t *testing.T) { // P6.2
	for _, l := range [][]Stmt{nil, {}} {
		if s := Print(l); s != "" {
			t.Errorf("of none: %q", s)
		}
	}
	l := block(Stmt{Kind: Let, Name: "a", Exprs: []Expr{num(1)}}, do(x), do(x), Stmt{Kind: While, Exprs: []Expr{x}}, Stmt{Kind: Return, Exprs: []Expr{y}})
	for i := range len(l) + 1 {
		want := ""
		for _, s := range l[:i] {
			want += s.String()
		}
		if got := Print(l[:i]); got != want {
			t.Errorf("%d: %q, not %q", i, got, want)
		}
	}
	if s := Print(l); s != "let a = 1;\nx;\nx;\nwhile x {\n}\nreturn y;\n" {
		t.Errorf("%q", s)
	}
}

func TestQuote(t *testing.T) { // P6.1
	for _, c := range [][2]string{
		{"", `""`},
		{"a", `"a"`},
		{"a b", `"a b"`},
		{"a\n\\", `"a\n\\"`},
		{`"`, `"\""`},
		{`\`, `"\\"`},
		{"\n", `"\n"`},
		{`\n`, `"\\n"`},
		{`\"`, `"\\\""`},
		{"\\\n", `"\\\n"`},
		{`""`, `"\"\""`},
		{"n", `"n"`},
		{"'`#", "\"'`#\""},
		{"\t\r\x00\x7f", "\"\t\r\x00\x7f\""},
		{"é日本", `"é日本"`},
		{"\xff\xc3", "\"\xff\xc3\""},
	} {
		if got := Quote(c[0]); got != c[1] {
			t.Errorf("%q: %q, not %q", c[0], got, c[1])
		}
	}
}

func TestQuoteOfEveryPairOfBytes(t *testing.T) { // P6.1: what the chapter puts otherwise, and every other byte as it is
	plain := strings.NewReplacer(`"`, `\"`, `\`, `\\`, "\n", `\n`)
	for i := range 256 * 256 {
		for _, b := range [][]byte{{byte(i)}, {byte(i), byte(i >> 8)}} {
			s := string(b)
			if got, want := Quote(s), `"`+plain.Replace(s)+`"`; got != want {
				t.Fatalf("%q: %q, not %q", s, got, want)
			}
		}
	}
}

func TestWhatIsQuotedIsReadAsItWas(t *testing.T) { // P6.1: of every text that can be read at all
	next := numbers(61)
	for range 3000 {
		b := make([]byte, next(12))
		for i := range b {
			b[i] = byte(32 + next(95))
			if k := next(8); k < 3 {
				b[i] = "\"\\\n"[k]
			}
		}
		s := string(b)
		l, at, e := lex.Split(Quote(s))
		if e != api.OK || len(l) != 2 || l[0] != (lex.Token{Kind: lex.Text, Text: s}) {
			t.Fatalf("%q: %v, %d, error %d", s, l, at, e)
		}
	}
}

func TestSame(t *testing.T) { // P6.1
	let := func(n string, e Expr) Stmt { return Stmt{Kind: Let, Name: n, Exprs: []Expr{e}} }
	l := []struct {
		name string
		l    []Stmt
	}{
		{"none", nil},
		{"a nil", block(do(of(Nil)))},
		{"a false", block(do(of(False)))},
		{"a name x", block(do(x))},
		{"a text x", block(do(txt("x")))},
		{"a text X", block(do(txt("X")))},
		{"an empty text", block(do(txt("")))},
		{"a 0", block(do(num(0)))},
		{"a 1", block(do(num(1)))},
		{"x twice", block(do(x), do(x))},
		{"x, y", block(do(x), do(y))},
		{"y, x", block(do(y), do(x))},
		{"let x = y", block(let("x", y))},
		{"let y = y", block(let("y", y))},
		{"let x = x", block(let("x", x))},
		{"x = y", block(Stmt{Kind: Assign, Name: "x", Exprs: []Expr{y}})},
		{"return x", block(Stmt{Kind: Return, Exprs: []Expr{x}})},
		{"throw x", block(Stmt{Kind: Throw, Exprs: []Expr{x}})},
		{"x + y", block(do(of(Add, x, y)))},
		{"y + x", block(do(of(Add, y, x)))},
		{"x - y", block(do(of(Sub, x, y)))},
		{"(x + y) + z", block(do(of(Add, of(Add, x, y), z)))},
		{"x + (y + z)", block(do(of(Add, x, of(Add, y, z))))},
		{"x()", block(do(of(Call, x)))},
		{"x(y)", block(do(of(Call, x, y)))},
		{"x[y]", block(do(of(Field, x, y)))},
		{"fn()", block(do(fn(nil)))},
		{"fn(a)", block(do(fn([]string{"a"})))},
		{"fn(b)", block(do(fn([]string{"b"})))},
		{"fn(a, b)", block(do(fn([]string{"a", "b"})))},
		{"fn(b, a)", block(do(fn([]string{"b", "a"})))},
		{"fn() x", block(do(fn(nil, do(x))))},
		{"fn() y", block(do(fn(nil, do(y))))},
		{"fn() x, x", block(do(fn(nil, do(x), do(x))))},
		{"if x", block(Stmt{Kind: If, Exprs: []Expr{x}})},
		{"while x", block(Stmt{Kind: While, Exprs: []Expr{x}})},
		{"if x y", block(Stmt{Kind: If, Exprs: []Expr{x}, Body: block(do(y))})},
		{"if x else y", block(Stmt{Kind: If, Exprs: []Expr{x}, Else: block(do(y))})},
		{"if x y else y", block(Stmt{Kind: If, Exprs: []Expr{x}, Body: block(do(y)), Else: block(do(y))})},
		{"try catch x", block(Stmt{Kind: Try, Name: "x"})},
		{"try catch y", block(Stmt{Kind: Try, Name: "y"})},
		{"try x catch y", block(Stmt{Kind: Try, Name: "y", Body: block(do(x))})},
		{"try catch y x", block(Stmt{Kind: Try, Name: "y", Else: block(do(x))})},
	}
	for i, a := range l {
		for j, b := range l {
			if got := Same(a.l, b.l); got != (i == j) {
				t.Errorf("%s, %s: %v", a.name, b.name, got)
			}
		}
	}
}

func TestSameLooksNotAtWhereTheyStand(t *testing.T) { // P6.1: at no depth
	at := func(n int) []Stmt {
		s := do(x)
		s.At = n
		f := do(of(Call, x, fn(nil, s)))
		f.At = 2 * n
		return block(Stmt{Kind: If, Exprs: []Expr{fn(nil, s, f)}, Body: block(f, s), Else: block(s, f), At: 3 * n}, f)
	}
	if !Same(at(0), at(5)) || !Same(at(5), at(0)) || !Same(at(-1), at(math.MaxInt)) {
		t.Error("where statements stand makes them others")
	}
}

func TestSameTakesEmptyListsForNone(t *testing.T) { // P6.1, R4
	none := block(Stmt{Kind: If, Exprs: []Expr{{Op: Fn}}}, Stmt{Kind: Try})
	empty := block(
		Stmt{Kind: If, Exprs: []Expr{{Op: Fn, Parts: []Expr{}, Params: []string{}, Body: []Stmt{}}}, Body: []Stmt{}, Else: []Stmt{}},
		Stmt{Kind: Try, Exprs: []Expr{}, Body: []Stmt{}, Else: []Stmt{}})
	if !Same(none, empty) || !Same(empty, none) || !Same(nil, []Stmt{}) || !Same([]Stmt{}, nil) {
		t.Error("an empty list isn't none")
	}
	if a, b := Print(none), Print(empty); a != b {
		t.Errorf("%q, %q", a, b)
	}
}

func TestSameLooksAtEveryPart(t *testing.T) { // P6.1: also at such as an op, a kind has no use for
	whole := func() []Stmt {
		e := Expr{Op: Nil, Num: 1, Text: "t", Parts: []Expr{x, y}, Params: []string{"p", "q"}, Body: block(do(x), do(y))}
		return block(Stmt{Kind: Let, Name: "n", Exprs: []Expr{e, e}, Body: block(do(x), do(y)), Else: block(do(x), do(y))})
	}
	for i, change := range []func(s *Stmt){
		func(s *Stmt) { s.Kind = Kinds },
		func(s *Stmt) { s.Kind = -1 },
		func(s *Stmt) { s.Name = "" },
		func(s *Stmt) { s.Exprs = s.Exprs[:1] },
		func(s *Stmt) { s.Exprs = nil },
		func(s *Stmt) { s.Body = s.Body[1:] },
		func(s *Stmt) { s.Else = s.Else[1:] },
		func(s *Stmt) { s.Body, s.Else = nil, nil },
		func(s *Stmt) { s.Body[1].Kind = Return },
		func(s *Stmt) { s.Else[1].Name = "m" },
		func(s *Stmt) { s.Exprs[1].Op = Ops },
		func(s *Stmt) { s.Exprs[1].Op = -1 },
		func(s *Stmt) { s.Exprs[1].Num = -1 },
		func(s *Stmt) { s.Exprs[1].Text = "u" },
		func(s *Stmt) { s.Exprs[1].Parts = s.Exprs[1].Parts[:1] },
		func(s *Stmt) { s.Exprs[1].Parts = []Expr{x, z} },
		func(s *Stmt) { s.Exprs[1].Params = s.Exprs[1].Params[1:] },
		func(s *Stmt) { s.Exprs[1].Params = []string{"q", "p"} },
		func(s *Stmt) { s.Exprs[1].Body = s.Exprs[1].Body[1:] },
		func(s *Stmt) { s.Exprs[0].Body = block(do(x), do(z)) },
	} {
		a, b := whole(), whole()
		if !Same(a, b) {
			t.Fatal("the same isn't the same")
		}
		change(&b[0])
		if Same(a, b) || Same(b, a) {
			t.Errorf("change %d isn't seen", i)
		}
	}
}

func TestNothingPanicsAtWhatIsNoTree(t *testing.T) { // P1: ops and kinds that are none, parts too few and too many
	for op := Op(-2); op < Ops+3; op++ {
		for n := range 5 {
			e := Expr{Op: op, Num: math.MinInt64, Text: "\xff\"", Parts: make([]Expr, n), Params: make([]string, n), Body: make([]Stmt, n)}
			_ = e.String()
			if !Same(block(do(e)), block(do(e))) {
				t.Errorf("op %d, %d parts: not the same", op, n)
			}
		}
	}
	for k := Kind(-2); k < Kinds+3; k++ {
		for n := range 5 {
			s := Stmt{Kind: k, Exprs: make([]Expr, n), Body: make([]Stmt, n), Else: make([]Stmt, n), At: -1}
			_ = Print(block(s, s))
			if !Same(block(s), block(s)) {
				t.Errorf("kind %d, %d parts: not the same", k, n)
			}
		}
	}
}

func TestLongTreesAreToldInTime(t *testing.T) { // P1: as long as a module may be, and far longer
	const n = 100000
	e, f := x, x
	for range n {
		e, f = of(Add, e, y), of(Field, f, y)
	}
	a, b := block(do(e)), block(do(f))
	if s := Print(a); s != strings.Repeat("(", n)+"x"+strings.Repeat(" + y)", n)+";\n" {
		t.Error("a long sum is told wrongly")
	}
	if s := Print(b); s != "x"+strings.Repeat("[y]", n)+";\n" {
		t.Error("a long way is told wrongly")
	}
	if !Same(a, a) || Same(a, b) {
		t.Error("P6.1: long ones")
	}
}

// numbers: a source of numbers below n that is the same at each run.
func numbers(seed uint64) func(n int) int {
	return func(n int) int {
		seed = seed*6364136223846793005 + 1442695040888963407
		return int((seed >> 33) % uint64(n))
	}
}

// maker makes trees such as are read.
type maker struct{ next func(n int) int }

func (m maker) name() string {
	return []string{"a", "b", "xy", "_", "Z9"}[m.next(5)]
}

func (m maker) exprs(n, deep int) []Expr {
	l := make([]Expr, n)
	for i := range l {
		l[i] = m.expr(deep)
	}
	return l
}

func (m maker) expr(deep int) Expr {
	op := Op(m.next(int(Ops)))
	if deep == 0 {
		op = Op(m.next(int(Minus)))
	}
	e := Expr{Op: op}
	switch {
	case op == Number:
		e.Num = int64(m.next(3)) * 617
	case op == Text:
		e.Text = []string{"", "a", "\"", "\\", "\n", "b\"c"}[m.next(6)]
	case op == Name:
		e.Text = m.name()
	case op == Minus || op == Not:
		e.Parts = m.exprs(1, deep-1)
	case op >= Add && op <= Field:
		e.Parts = m.exprs(2, deep-1)
	case op == Call:
		e.Parts = m.exprs(1+m.next(4), deep-1)
	case op == Record:
		e.Parts = m.exprs(2*m.next(4), deep-1)
	case op == Fn:
		for range m.next(4) {
			e.Params = append(e.Params, m.name())
		}
		e.Body = m.stmts(deep - 1)
	}
	return e
}

func (m maker) stmts(deep int) []Stmt {
	l := make([]Stmt, m.next(4))
	for i := range l {
		l[i] = m.stmt(deep)
	}
	return l
}

func (m maker) stmt(deep int) Stmt {
	s := Stmt{Kind: Kind(m.next(int(Kinds))), At: m.next(100)}
	if deep == 0 {
		s.Kind = []Kind{Let, Assign, Put, Return, Throw, Do}[m.next(6)]
	}
	if s.Kind == Let || s.Kind == Assign || s.Kind == Try {
		s.Name = m.name()
	}
	if s.Kind == Put {
		s.Exprs = m.exprs(3, deep)
	} else if s.Kind != Try {
		s.Exprs = m.exprs(1, deep)
	}
	if s.Kind == If || s.Kind == While || s.Kind == Try {
		s.Body = m.stmts(deep - 1)
	}
	if s.Kind == If || s.Kind == Try {
		s.Else = m.stmts(deep - 1)
	}
	return s
}

// plainExpr tells an expression as the chapter puts it, one op at a time.
func plainExpr(e Expr) string {
	args := []any{}
	for _, p := range e.Parts {
		args = append(args, plainExpr(p))
	}
	switch e.Op {
	case Nil, False, True:
		return map[Op]string{Nil: "nil", False: "false", True: "true"}[e.Op]
	case Number:
		return fmt.Sprint(e.Num)
	case Text:
		return `"` + strings.NewReplacer(`"`, `\"`, `\`, `\\`, "\n", `\n`).Replace(e.Text) + `"`
	case Name:
		return e.Text
	case Call:
		return fmt.Sprintf("%s("+strings.TrimSuffix(strings.Repeat("%s, ", len(args)-1), ", ")+")", args...)
	case Record:
		return fmt.Sprintf("{"+strings.TrimSuffix(strings.Repeat("[%s]: %s, ", len(args)/2), ", ")+"}", args...)
	case Fn:
		return "fn(" + strings.Join(e.Params, ", ") + ") {\n" + plainStmts(e.Body) + "}"
	}
	return fmt.Sprintf(map[Op]string{Minus: "(-%s)", Not: "(!%s)", Add: "(%s + %s)", Sub: "(%s - %s)", Mul: "(%s * %s)",
		Equal: "(%s == %s)", Unlike: "(%s != %s)", Less: "(%s < %s)", Field: "%s[%s]"}[e.Op], args...)
}

func plainStmts(l []Stmt) string {
	all := ""
	for _, s := range l {
		args := []any{}
		if s.Kind == Let || s.Kind == Assign {
			args = append(args, s.Name)
		}
		for _, e := range s.Exprs {
			args = append(args, plainExpr(e))
		}
		switch s.Kind {
		case If:
			all += fmt.Sprintf("if %s {\n", args...) + plainStmts(s.Body)
			if len(s.Else) > 0 {
				all += "} else {\n" + plainStmts(s.Else)
			}
			all += "}\n"
		case While:
			all += fmt.Sprintf("while %s {\n", args...) + plainStmts(s.Body) + "}\n"
		case Try:
			all += "try {\n" + plainStmts(s.Body) + "} catch " + s.Name + " {\n" + plainStmts(s.Else) + "}\n"
		default:
			all += fmt.Sprintf(map[Kind]string{Let: "let %s = %s;\n", Assign: "%s = %s;\n", Put: "%s[%s] = %s;\n",
				Return: "return %s;\n", Throw: "throw %s;\n", Do: "%s;\n"}[s.Kind], args...)
		}
	}
	return all
}

// copied: the same trees in memory of their own, by a way that looks at every part; standing where at says.
func copied(l []Stmt, at func() int) []Stmt {
	out := slices.Clone(l)
	for i, s := range out {
		out[i] = Stmt{Kind: s.Kind, Name: s.Name, Exprs: copiedExprs(s.Exprs, at), Body: copied(s.Body, at), Else: copied(s.Else, at), At: at()}
	}
	return out
}

func copiedExprs(l []Expr, at func() int) []Expr {
	out := slices.Clone(l)
	for i, e := range out {
		out[i] = Expr{Op: e.Op, Num: e.Num, Text: e.Text, Parts: copiedExprs(e.Parts, at), Params: slices.Clone(e.Params), Body: copied(e.Body, at)}
	}
	return out
}

// sites: the places of all parts in trees.
func sites(l []Stmt, stmt func(*Stmt), expr func(*Expr)) {
	for i := range l {
		stmt(&l[i])
		sitesIn(l[i].Exprs, stmt, expr)
		sites(l[i].Body, stmt, expr)
		sites(l[i].Else, stmt, expr)
	}
}

func sitesIn(l []Expr, stmt func(*Stmt), expr func(*Expr)) {
	for i := range l {
		expr(&l[i])
		sitesIn(l[i].Parts, stmt, expr)
		sites(l[i].Body, stmt, expr)
	}
}

func TestManyTreesAreTold(t *testing.T) { // P6.2: held against the chapter's words
	m := maker{numbers(62)}
	for range 5000 {
		l := m.stmts(m.next(5))
		if got, want := Print(l), plainStmts(l); got != want {
			t.Fatalf("%q, not %q", got, want)
		}
		e := m.expr(m.next(4))
		if got, want := e.String(), plainExpr(e); got != want {
			t.Fatalf("%q, not %q", got, want)
		}
	}
}

func TestManyTreesAreComparedWithOthers(t *testing.T) { // P6.1: a copy is the same; one with a change anywhere isn't
	m := maker{numbers(63)}
	at := func() int { return m.next(1000) }
	for range 1500 {
		l := m.stmts(3)
		c := copied(l, at)
		if !Same(l, c) || !Same(c, l) {
			t.Fatalf("%q: a copy isn't the same", Print(l))
		}
		var changes []func()
		sites(c, func(s *Stmt) {
			changes = append(changes, func() { s.Kind++ }, func() { s.Name += "!" }, func() { s.Exprs = append(s.Exprs, x) },
				func() { s.Body = append(s.Body, do(x)) }, func() { s.Else = append(s.Else, do(x)) })
		}, func(e *Expr) {
			changes = append(changes, func() { e.Op++ }, func() { e.Num++ }, func() { e.Text += "!" }, func() { e.Parts = append(e.Parts, x) },
				func() { e.Params = append(e.Params, "!") }, func() { e.Body = append(e.Body, do(x)) })
		})
		if len(changes) == 0 {
			continue
		}
		changes[m.next(len(changes))]()
		if Same(l, c) || Same(c, l) {
			t.Fatalf("%#v: the same as %#v", l, c)
		}
	}
}

func TestWhatIsHandedInStaysAsItIs(t *testing.T) { // R5: spare room included
	m := maker{numbers(64)}
	for range 300 {
		l := m.stmts(3)
		roomy := append(make([]Stmt, 0, len(l)+3), l...)
		spare := roomy[:len(l)+3]
		for i := len(l); i < len(spare); i++ {
			spare[i] = Stmt{Name: "spare"}
		}
		before := copied(spare, func() int { return 7 })
		ats := []int{}
		sites(spare, func(s *Stmt) { ats = append(ats, s.At) }, func(*Expr) {})
		Print(roomy)
		Same(roomy, l)
		Same(l, roomy)
		after := copied(spare, func() int { return 7 })
		still := []int{}
		sites(spare, func(s *Stmt) { still = append(still, s.At) }, func(*Expr) {})
		if !reflect.DeepEqual(before, after) || !slices.Equal(ats, still) {
			t.Fatalf("%q: changed", Print(l))
		}
	}
}
