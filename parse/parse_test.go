package parse

import (
	"fmt"
	"math"
	"reflect"
	"strings"
	"testing"

	"paling/api"
	"paling/lex"
	"paling/tree"
)

func name(s string) tree.Expr { return tree.Expr{Op: tree.Name, Text: s} }

func num(n int64) tree.Expr { return tree.Expr{Op: tree.Number, Num: n} }

func txt(s string) tree.Expr { return tree.Expr{Op: tree.Text, Text: s} }

func of(op tree.Op, parts ...tree.Expr) tree.Expr { return tree.Expr{Op: op, Parts: parts} }

func fn(params []string, body ...tree.Stmt) tree.Expr {
	return tree.Expr{Op: tree.Fn, Params: params, Body: body}
}

func exprs(l ...tree.Expr) []tree.Expr { return l }

func do(at int, e tree.Expr) tree.Stmt { return tree.Stmt{Kind: tree.Do, Exprs: exprs(e), At: at} }

func block(l ...tree.Stmt) []tree.Stmt { return l }

// Names that stand for any part.
var a, b, c = name("a"), name("b"), name("c")

// bare: trees in which each empty list is nil, so that they can be held against each other whole.
func bare(l []tree.Stmt) []tree.Stmt {
	var out []tree.Stmt
	for _, s := range l {
		s.Exprs, s.Body, s.Else = bareExprs(s.Exprs), bare(s.Body), bare(s.Else)
		out = append(out, s)
	}
	return out
}

func bareExprs(l []tree.Expr) []tree.Expr {
	var out []tree.Expr
	for _, e := range l {
		e.Parts, e.Params, e.Body = bareExprs(e.Parts), append([]string(nil), e.Params...), bare(e.Body)
		out = append(out, e)
	}
	return out
}

// parsed: s is read as those statements, which stand where they say.
func parsed(t *testing.T, s string, want []tree.Stmt) {
	t.Helper()
	got, at, e := Parse(s)
	if at != 0 || e != api.OK || !reflect.DeepEqual(bare(got), bare(want)) {
		t.Errorf("%q: %+v, place %d, error %d, not %+v", s, got, at, e, want)
	}
}

// refused: s goes wrong there, for that.
func refused(t *testing.T, s string, wantAt int, wantE api.Errno) {
	t.Helper()
	if got, at, e := Parse(s); len(got) != 0 || at != wantAt || e != wantE {
		t.Errorf("%q: %+v, place %d, error %d, not %d, %d", s, got, at, e, wantAt, wantE)
	}
}

func TestReserved(t *testing.T) { // P7.1
	words := []string{"let", "if", "else", "while", "return", "throw", "try", "catch", "fn", "nil", "true", "false"}
	for _, w := range words {
		if !Reserved(w) {
			t.Errorf("%s is a name", w)
		}
		for _, s := range []string{w + "s", w[1:], w[:len(w)-1], strings.ToUpper(w), " " + w, w + " ", "_" + w, w + w} {
			if Reserved(s) {
				t.Errorf("%q is reserved", s)
			}
		}
		refused(t, "let "+w+" = 1;", 4, api.ErrForm)
		refused(t, "a."+w+";", 2, api.ErrForm)
		refused(t, "a = {"+w+": 1};", 5, api.ErrForm)
		refused(t, "fn("+w+") { };", 3, api.ErrForm)
		refused(t, "fn(a, "+w+") { };", 6, api.ErrForm)
		refused(t, "try { } catch "+w+" { }", 14, api.ErrForm)
	}
	for _, s := range []string{"", "a", "len", "for", "function", "null", "record", "error", "do", "put", "assign", "0", "\x00", "let if"} {
		if Reserved(s) {
			t.Errorf("%q is reserved", s)
		}
	}
}

func TestTheChaptersExample(t *testing.T) { // P7.1
	parsed(t, "x.y = -1;", block(tree.Stmt{Kind: tree.Put, Exprs: exprs(name("x"), txt("y"), of(tree.Minus, num(1)))}))
}

func TestExpressions(t *testing.T) { // P7.1: each thing, and which signs hold tighter
	for s, want := range map[string]tree.Expr{
		"nil":                               of(tree.Nil),
		"true":                              of(tree.True),
		"false":                             of(tree.False),
		"0":                                 num(0),
		"7":                                 num(7),
		"9223372036854775807":               num(math.MaxInt64),
		`""`:                                txt(""),
		`"a\"\\\n#"`:                        txt("a\"\\\n#"),
		`"nil"`:                             txt("nil"),
		`"("`:                               txt("("),
		"a":                                 a,
		"_9Z":                               name("_9Z"),
		"lets":                              name("lets"),
		"Nil":                               name("Nil"),
		"(a)":                               a,
		"((a))":                             a,
		"-a":                                of(tree.Minus, a),
		"!a":                                of(tree.Not, a),
		"-!-a":                              of(tree.Minus, of(tree.Not, of(tree.Minus, a))),
		"- -a":                              of(tree.Minus, of(tree.Minus, a)),
		"-1":                                of(tree.Minus, num(1)),
		"a + b":                             of(tree.Add, a, b),
		"a - b":                             of(tree.Sub, a, b),
		"a * b":                             of(tree.Mul, a, b),
		"a == b":                            of(tree.Equal, a, b),
		"a != b":                            of(tree.Unlike, a, b),
		"a < b":                             of(tree.Less, a, b),
		"a - b - c":                         of(tree.Sub, of(tree.Sub, a, b), c),
		"a - (b - c)":                       of(tree.Sub, a, of(tree.Sub, b, c)),
		"a + b - c + a":                     of(tree.Add, of(tree.Sub, of(tree.Add, a, b), c), a),
		"a * b * c":                         of(tree.Mul, of(tree.Mul, a, b), c),
		"a * (b * c)":                       of(tree.Mul, a, of(tree.Mul, b, c)),
		"a + b * c":                         of(tree.Add, a, of(tree.Mul, b, c)),
		"a * b + c":                         of(tree.Add, of(tree.Mul, a, b), c),
		"(a + b) * c":                       of(tree.Mul, of(tree.Add, a, b), c),
		"a < b + c":                         of(tree.Less, a, of(tree.Add, b, c)),
		"a - b == b * c":                    of(tree.Equal, of(tree.Sub, a, b), of(tree.Mul, b, c)),
		"(a < b) < c":                       of(tree.Less, of(tree.Less, a, b), c),
		"a == (b != c)":                     of(tree.Equal, a, of(tree.Unlike, b, c)),
		"a--b":                              of(tree.Sub, a, of(tree.Minus, b)),
		"a - - b":                           of(tree.Sub, a, of(tree.Minus, b)),
		"-a + b":                            of(tree.Add, of(tree.Minus, a), b),
		"-(a + b)":                          of(tree.Minus, of(tree.Add, a, b)),
		"-a * !b":                           of(tree.Mul, of(tree.Minus, a), of(tree.Not, b)),
		"!a == b":                           of(tree.Equal, of(tree.Not, a), b),
		"a == !b":                           of(tree.Equal, a, of(tree.Not, b)),
		"a!=!b":                             of(tree.Unlike, a, of(tree.Not, b)),
		"-a.b":                              of(tree.Minus, of(tree.Field, a, txt("b"))),
		"!a(b)":                             of(tree.Not, of(tree.Call, a, b)),
		"(-a).b":                            of(tree.Field, of(tree.Minus, a), txt("b")),
		"a.b":                               of(tree.Field, a, txt("b")),
		"a . b":                             of(tree.Field, a, txt("b")),
		`a["b"]`:                            of(tree.Field, a, txt("b")),
		"a[b]":                              of(tree.Field, a, b),
		"a[b + c]":                          of(tree.Field, a, of(tree.Add, b, c)),
		"a[b < c]":                          of(tree.Field, a, of(tree.Less, b, c)),
		"a.b.c":                             of(tree.Field, of(tree.Field, a, txt("b")), txt("c")),
		"a[b].c[1]":                         of(tree.Field, of(tree.Field, of(tree.Field, a, b), txt("c")), num(1)),
		"1.a":                               of(tree.Field, num(1), txt("a")),
		`"t"[0]`:                            of(tree.Field, txt("t"), num(0)),
		"nil.a":                             of(tree.Field, of(tree.Nil), txt("a")),
		"a()":                               of(tree.Call, a),
		"a(b)":                              of(tree.Call, a, b),
		"a(b, c)":                           of(tree.Call, a, b, c),
		"a(b, 1, c + 2, a)":                 of(tree.Call, a, b, num(1), of(tree.Add, c, num(2)), a),
		"a((b))":                            of(tree.Call, a, b),
		"a(b)(c)()":                         of(tree.Call, of(tree.Call, of(tree.Call, a, b), c)),
		"a.b(c)[1]":                         of(tree.Field, of(tree.Call, of(tree.Field, a, txt("b")), c), num(1)),
		"a(b(c))":                           of(tree.Call, a, of(tree.Call, b, c)),
		"(a + b)(c)":                        of(tree.Call, of(tree.Add, a, b), c),
		"{}":                                of(tree.Record),
		"{a: b}":                            of(tree.Record, txt("a"), b),
		"{[a]: b}":                          of(tree.Record, a, b),
		"{a: 1, b: 2, [c]: 3, a: 4}":        of(tree.Record, txt("a"), num(1), txt("b"), num(2), c, num(3), txt("a"), num(4)),
		"{[1 < 2]: a == b}":                 of(tree.Record, of(tree.Less, num(1), num(2)), of(tree.Equal, a, b)),
		"{a: {b: {}}}":                      of(tree.Record, txt("a"), of(tree.Record, txt("b"), of(tree.Record))),
		"{a: 1}.a":                          of(tree.Field, of(tree.Record, txt("a"), num(1)), txt("a")),
		"{}()":                              of(tree.Call, of(tree.Record)),
		"fn() { }":                          fn(nil),
		"fn(a) { }":                         fn([]string{"a"}),
		"fn(a, b, a) { }":                   fn([]string{"a", "b", "a"}),
		"fn(){}(a)":                         of(tree.Call, fn(nil), a),
		"fn(){}.a":                          of(tree.Field, fn(nil), txt("a")),
		"fn(){} + fn(){}":                   of(tree.Add, fn(nil), fn(nil)),
		"fn(a) {b; c;}":                     fn([]string{"a"}, do(11, b), do(14, c)),
		"fn() {fn() {a;};}":                 fn(nil, do(10, fn(nil, do(16, a)))),
		"a.b(1)[2] + 3 * -4 < 5":            of(tree.Less, of(tree.Add, of(tree.Field, of(tree.Call, of(tree.Field, a, txt("b")), num(1)), num(2)), of(tree.Mul, num(3), of(tree.Minus, num(4)))), num(5)),
		" # let\n(#)\n a # +\n + # ;\nb\n)": of(tree.Add, a, b),
	} {
		// Where statements within an expression stand is counted from the one that begins 4 bytes into the text.
		for _, behind := range []string{";", " ;", "\n;\n", " # a note\n; # and one"} {
			parsed(t, "b = "+s+behind, block(tree.Stmt{Kind: tree.Assign, Name: "b", Exprs: exprs(want)}))
		}
	}
}

func TestStatements(t *testing.T) { // P7.1: each kind, and where it begins
	for s, want := range map[string][]tree.Stmt{
		"":                      nil,
		" \n # a note":          nil,
		"let a = b;":            block(tree.Stmt{Kind: tree.Let, Name: "a", Exprs: exprs(b)}),
		"let a=a<b;":            block(tree.Stmt{Kind: tree.Let, Name: "a", Exprs: exprs(of(tree.Less, a, b))}),
		"a = b;":                block(tree.Stmt{Kind: tree.Assign, Name: "a", Exprs: exprs(b)}),
		"a = b == c;":           block(tree.Stmt{Kind: tree.Assign, Name: "a", Exprs: exprs(of(tree.Equal, b, c))}),
		"(a) = b;":              block(tree.Stmt{Kind: tree.Assign, Name: "a", Exprs: exprs(b)}),
		"a.b = c;":              block(tree.Stmt{Kind: tree.Put, Exprs: exprs(a, txt("b"), c)}),
		"a[b] = c;":             block(tree.Stmt{Kind: tree.Put, Exprs: exprs(a, b, c)}),
		"(a[b]) = c;":           block(tree.Stmt{Kind: tree.Put, Exprs: exprs(a, b, c)}),
		"a.b.c = c;":            block(tree.Stmt{Kind: tree.Put, Exprs: exprs(of(tree.Field, a, txt("b")), txt("c"), c)}),
		"a().b = c;":            block(tree.Stmt{Kind: tree.Put, Exprs: exprs(of(tree.Call, a), txt("b"), c)}),
		"(-a).b = c;":           block(tree.Stmt{Kind: tree.Put, Exprs: exprs(of(tree.Minus, a), txt("b"), c)}),
		"1.b = c;":              block(tree.Stmt{Kind: tree.Put, Exprs: exprs(num(1), txt("b"), c)}),
		"{}.b = c;":             block(tree.Stmt{Kind: tree.Put, Exprs: exprs(of(tree.Record), txt("b"), c)}),
		"return a;":             block(tree.Stmt{Kind: tree.Return, Exprs: exprs(a)}),
		"return a == b;":        block(tree.Stmt{Kind: tree.Return, Exprs: exprs(of(tree.Equal, a, b))}),
		"throw a;":              block(tree.Stmt{Kind: tree.Throw, Exprs: exprs(a)}),
		"a;":                    block(do(0, a)),
		"1;":                    block(do(0, num(1))),
		"nil;":                  block(do(0, of(tree.Nil))),
		"{};":                   block(do(0, of(tree.Record))),
		"-a;":                   block(do(0, of(tree.Minus, a))),
		"(a);":                  block(do(0, a)),
		"a == b;":               block(do(0, of(tree.Equal, a, b))),
		"fn() { };":             block(do(0, fn(nil))),
		"a.b;":                  block(do(0, of(tree.Field, a, txt("b")))),
		`"let" ;`:               block(do(0, txt("let"))),
		"if a { }":              block(tree.Stmt{Kind: tree.If, Exprs: exprs(a)}),
		"if a {b;}":             block(tree.Stmt{Kind: tree.If, Exprs: exprs(a), Body: block(do(6, b))}),
		"if a { } else { }":     block(tree.Stmt{Kind: tree.If, Exprs: exprs(a)}),
		"if a { } else {b;c;}":  block(tree.Stmt{Kind: tree.If, Exprs: exprs(a), Else: block(do(15, b), do(17, c))}),
		"if a {b;} else {c;}":   block(tree.Stmt{Kind: tree.If, Exprs: exprs(a), Body: block(do(6, b)), Else: block(do(16, c))}),
		"if {} { }":             block(tree.Stmt{Kind: tree.If, Exprs: exprs(of(tree.Record))}),
		"if {a: 1} {a;}":        block(tree.Stmt{Kind: tree.If, Exprs: exprs(of(tree.Record, txt("a"), num(1))), Body: block(do(11, a))}),
		"if fn() { } { }":       block(tree.Stmt{Kind: tree.If, Exprs: exprs(fn(nil))}),
		"if(a){}":               block(tree.Stmt{Kind: tree.If, Exprs: exprs(a)}),
		"while a { }":           block(tree.Stmt{Kind: tree.While, Exprs: exprs(a)}),
		"while a < b {c;a;}":    block(tree.Stmt{Kind: tree.While, Exprs: exprs(of(tree.Less, a, b)), Body: block(do(13, c), do(15, a))}),
		"try { } catch a { }":   block(tree.Stmt{Kind: tree.Try, Name: "a"}),
		"try {b;} catch a {c;}": block(tree.Stmt{Kind: tree.Try, Name: "a", Body: block(do(5, b)), Else: block(do(18, c))}),
		"a;b; c;":               block(do(0, a), do(2, b), do(5, c)),
		"# a;\n a ; #\n b\n;":   block(do(6, a), do(13, b)),
		"if a{}b;":              block(tree.Stmt{Kind: tree.If, Exprs: exprs(a)}, do(6, b)),
		"if a{}{};":             block(tree.Stmt{Kind: tree.If, Exprs: exprs(a)}, do(6, of(tree.Record))),
		"if a{}(b);":            block(tree.Stmt{Kind: tree.If, Exprs: exprs(a)}, do(6, b)),
		"if a{}else{}if b{}":    block(tree.Stmt{Kind: tree.If, Exprs: exprs(a)}, tree.Stmt{Kind: tree.If, Exprs: exprs(b), At: 12}),
		"while a{}-b;":          block(tree.Stmt{Kind: tree.While, Exprs: exprs(a)}, do(9, of(tree.Minus, b))),
		" if a {\n while b {\n let c = 1; } }": block(tree.Stmt{Kind: tree.If, Exprs: exprs(a), At: 1, Body: block(
			tree.Stmt{Kind: tree.While, Exprs: exprs(b), At: 9, Body: block(tree.Stmt{Kind: tree.Let, Name: "c", Exprs: exprs(num(1)), At: 20})})}),
		"return fn(a) { throw a; };": block(tree.Stmt{Kind: tree.Return, Exprs: exprs(fn([]string{"a"}, tree.Stmt{Kind: tree.Throw, Exprs: exprs(a), At: 15}))}),
	} {
		parsed(t, s, want)
	}
}

func TestAnotherTokenMustStand(t *testing.T) { // P7.1: ErrForm, where it must
	for s, at := range map[string]int{
		"a": 1, "a ": 2, "a # note": 8, "a b;": 2, "a }": 2, "}": 0, ")": 0, ";": 0, "=": 0, "= 1;": 0, ",": 0, "a; ;": 3,
		"let": 3, "let;": 3, "let 1 = 2;": 4, `let "a" = 2;`: 4, "let a;": 5, "let a == 1;": 6, "let a.b = 1;": 5, "let a = ;": 8, "let a = 1": 9, "let a = 1 = 2;": 10, "let let = 1;": 4, "let (a) = 1;": 4,
		"return": 6, "return;": 6, "return 1": 8, "return let": 7, "return a = b;": 9, "throw": 5, "throw;": 5, "throw a b;": 8,
		"if": 2, "if { }": 6, "if {} ;": 6, "if a": 4, "if a b;": 5, "if a;": 4, "if a { } else": 13, "if a { } else b;": 14, "if a { } else if b { }": 14, "if a { } else { } else { }": 18, "else { }": 0, "if a { ": 7, "if a { b }": 9, "if a = b { }": 5, "if a { };": 8,
		"while": 5, "while a": 7, "while a b;": 8, "while a { } else { }": 12, "while { } ;": 10,
		"try": 3, "try a;": 4, "try { }": 7, "try { } catch": 13, "try { } catch { }": 14, "try { } catch 1 { }": 14, "try { } catch (a) { }": 14, "try { } catch a": 15, "try { } catch a b;": 16, "try { } else { }": 8, "catch a { }": 0, "try { } a;": 8,
		"a = ;": 4, "a = 1": 5, "a = b = c;": 6, "a == ;": 5, "a = = b;": 4, "a < b < c;": 6, "a == b != c;": 7, "a < b == c;": 6,
		"a +;": 3, "a + + b;": 4, "a *;": 3, "a * * b;": 4, "* a;": 0, "+ a;": 0, "< a;": 0, "-;": 1, "!;": 1, "! = a;": 2, "a ! b;": 2, "a - ;": 4, "-": 1,
		"(": 1, "()": 1, "();": 1, "(a": 2, "(a;": 2, "(a b);": 3, "(a, b);": 2, "(a = b);": 3, "(a));": 3,
		"f(": 2, "f(,);": 2, "f(a": 3, "f(a b);": 4, "f(a,);": 4, "f(a, , b);": 5, "f(a;": 3, "f(a];": 3, "f(a = b);": 4, "f(let);": 2,
		"a[": 2, "a[];": 2, "a[b": 3, "a[b;": 3, "a[b, c];": 3, "a[b);": 3, "a[b]]": 4, "[": 0, "[a];": 0,
		"a.": 2, "a.;": 2, "a.1;": 2, `a."b";`: 2, "a.(b);": 2, "a..b;": 2, "a.nil;": 2, ".a;": 0, "a.b c;": 4,
		"fn": 2, "fn;": 2, "fn { };": 3, "fn a() { };": 3, "fn(": 3, "fn(1) { };": 3, `fn("a") { };`: 3, "fn(a": 4, "fn(a b) { };": 5, "fn(a,) { };": 5, "fn(,) { };": 3, "fn((a)) { };": 3, "fn() ;": 5, "fn()": 4, "fn() a;": 5, "fn() { ": 7, "fn() { } ": 9, "fn() { a }": 9, "fn() { a; };}": 12, "fn() {{};": 9,
		"{": 1, "{;": 1, "{a": 2, "{a}": 2, "{a};": 2, "{a;}": 2, "{a:": 3, "{a: };": 4, "{a: 1": 5, "{a: 1;": 5, "{a: 1,};": 6, "{a: 1, , };": 7, "{,};": 1, "{1: 2};": 1, `{"a": 1};`: 1, "{(a): 1};": 1, "{a = 1};": 3, "{a.b: 1};": 2, "{[a: 1};": 3, "{[a] 1};": 5, "{[]: 1};": 2, "{[a]};": 4, "{nil: 1};": 1, "{a: 1 b: 2};": 6, "{a: b: c};": 5, "{}": 2, "{} {};": 3, "{a: 1]": 5, "{let a = 1;}": 1, "{a: 1)": 5,
		"1 2;": 2, "1a;": 1, "nil nil;": 4, `"a" "b";`: 4,
		`a ";"`: 2, `"(" a ")"`: 4, `a "=" b;`: 2, `let a "=" 1;`: 6, `if a "{" }`: 5, `f"(")`: 1, `try { } "catch" e { }`: 8, `if a { } "else" { }`: 16, `a "+" b;`: 2, `"-" a;`: 4,
	} {
		refused(t, s, at, api.ErrForm)
	}
}

func TestWhatCantStandAheadOfIs(t *testing.T) { // P7.1: ErrKind, at the statement's beginning, as soon as = is met
	for _, s := range []string{"1", "nil", "true", "false", `"a"`, "-a", "!a", "a + b", "a - b", "a * b", "a == b", "a != b", "a < b", "f()", "a.f(b)", "{}", "{a: 1}", "fn() { }", "(a + b)", "((1))", "-a.b", "!a[1]", "a.b + c.d", "a + b.c", "a.b < c", "a[1]()", "(a)(b)"} {
		for _, behind := range []string{" = 1;", " = ", " =", " = ;", " = let", " = (", " = b = c;", "=}", " = " + strings.Repeat("(", 21)} {
			refused(t, s+behind, 0, api.ErrKind)
			refused(t, "let a = 1; # 1\n "+s+behind, 16, api.ErrKind)
			refused(t, "if a { b; "+s+behind, 10, api.ErrKind)
			refused(t, "a = fn() { while b { } "+s+behind, 23, api.ErrKind)
		}
		refused(t, s+" ? = 1;", len(s)+1, api.ErrForm)
		refused(t, s+") = 1;", len(s), api.ErrForm)
	}
	// What goes wrong further left comes first; what goes wrong further right doesn't.
	refused(t, "1 + = 2;", 4, api.ErrForm)
	refused(t, "a b; 1 = 2;", 2, api.ErrForm)
	refused(t, "1 = 2; a b;", 0, api.ErrKind)
	refused(t, "a = 1; 2 = 3; 4 = 5;", 7, api.ErrKind)
	refused(t, "f(fn() { 1 = 2; }) = 3;", 9, api.ErrKind)
	refused(t, "f(fn() { a = 2; }) = 3;", 0, api.ErrKind)
}

func TestSplitsErrorsComeFirst(t *testing.T) { // P7.1: its error and place, wherever it stands
	for _, c := range []struct {
		s  string
		at int
		e  api.Errno
	}{
		{"?", 0, api.ErrForm},
		{"1 = 2; let if ?", 14, api.ErrForm},
		{"} 007", 2, api.ErrRange},
		{"a = 9223372036854775808;", 4, api.ErrRange},
		{"a = -9223372036854775808;", 5, api.ErrRange},
		{strings.Repeat("(", 30) + "00", 30, api.ErrRange},
		{`} "a`, 2, api.ErrForm},
		{"a;\t", 2, api.ErrForm},
		{"a; \xff 00", 3, api.ErrForm},
		{strings.Repeat(" ", api.MaxSource) + " ", 0, api.ErrSize},
		{strings.Repeat("?", api.MaxSource+1), 0, api.ErrSize},
		{strings.Repeat("a;", api.MaxSource/2) + ";", 0, api.ErrSize},
	} {
		refused(t, c.s, c.at, c.e)
	}
	if l, at, e := Parse(strings.Repeat("a;", api.MaxSource/2)); len(l) != api.MaxSource/2 || at != 0 || e != api.OK {
		t.Errorf("as long as may be: %d, place %d, error %d", len(l), at, e)
	}
}

func TestHowDeep(t *testing.T) { // P7.1: so many are allowed, and one more isn't, at the token with which it would begin
	r := rules()
	for _, c := range []struct {
		head, ahead, inner, behind, tail string
		first, by                        int // how deep inner is, and how much deeper with each that is around it
	}{
		{"", "(", "a", ")", ";", 1, 1},
		{"", "-", "a", "", ";", 1, 1},
		{"", "! ", "a", "", ";", 1, 1},
		{"", "-!", "a", "", ";", 1, 2},
		{"", "f(", "a", ")", ";", 1, 1},
		{"", "f(1, ", "a", ", 2)", ";", 1, 1},
		{"", "b[", "a", "]", ";", 1, 1},
		{"", "{b: ", "a", "}", ";", 1, 1},
		{"", "{[", "a", "]: 1}", ";", 1, 1},
		{"", "{[1]: ", "a", "}", ";", 1, 1},
		{"", "1 + (", "a", ") * 2", ";", 1, 1},
		{"", "1 < (2 + 3 * (", "a", "))", ";", 1, 2},
		{"", "-(", "a", ")", ";", 1, 2},
		{"", "(-", "a", ")", ";", 1, 2},
		{"", "fn() { return ", "a", "; }", ";", 1, 2},
		{"", "fn(b) { b; ", "a", "; }", ";", 1, 2},
		{"", "fn() { let b = 1; b = ", "a", "; }", ";", 1, 2},
		{"", "fn() { if 1 { } else { throw ", "a", "; } }", ";", 1, 3},
		{"", "fn() { }(", "a", ")", ";", 1, 1},
		{"let b = ", "(", "a", ")", ";", 1, 1},
		{"b = ", "(", "a", ")", ";", 1, 1},
		{"", "(", "a", ")", " = 1;", 1, 1},
		{"b.b = ", "(", "a", ")", ";", 1, 1},
		{"return ", "(", "a", ")", ";", 1, 1},
		{"throw ", "(", "a", ")", ";", 1, 1},
		{"if ", "(", "a", ")", " { }", 1, 1},
		{"while ", "(", "a", ")", " { }", 1, 1},
		{"(-1)[1] = 1; b(", "(", "a", ")", ");", 2, 1},
		{"", "if 1 { ", "a;", "}", "", 1, 1},
		{"", "while (1) { ", "a;", "}", "", 1, 1},
		{"", "if 1 { 1; } else { ", "a;", "}", "", 1, 1},
		{"", "try { ", "a;", "} catch e { }", "", 1, 1},
		{"", "try { } catch e { ", "a;", "}", "", 1, 1},
		{"try { } catch e { } a = fn() { ", "while 1 { ", "return a;", "}", "};", 3, 1},
	} {
		n := (api.MaxDeep - c.first) / c.by
		rest := strings.Repeat("-", api.MaxDeep-c.first-n*c.by)
		inner := strings.Replace(c.inner, "a", rest+"a", 1)
		for more := range 4 {
			s := c.head + strings.Repeat(c.ahead, n+more) + inner + strings.Repeat(c.behind, n+more) + c.tail
			if e := held(t, r, s); more == 0 && e != api.OK || more > 0 && e != api.ErrDeep {
				t.Errorf("%q: error %d", s, e)
			}
		}
	}
}

func TestWhereItIsTooDeep(t *testing.T) { // P7.1: at the token, whatever it is
	brackets, blocks := strings.Repeat("(", 20), strings.Repeat("if a{", 20)
	for s, at := range map[string]int{
		brackets + "a":             20,
		brackets + ")":             20,
		brackets + ";":             20,
		brackets + "let":           20,
		brackets + "  # note\n ":   30,
		brackets + "-":             20,
		brackets[1:] + "-a":        20,
		brackets[1:] + "- ;":       21,
		brackets[1:] + "!":         20,
		brackets[1:] + "f(a":       21,
		brackets[1:] + "f(;":       21,
		brackets[1:] + "f(":        21,
		brackets[1:] + "a[]":       21,
		brackets[1:] + "{b: }":     23,
		brackets[1:] + "{[1":       21,
		brackets[1:] + "fn(a) {":   26,
		brackets[1:] + "fn(a) { }": 27,
		brackets[1:] + "fn(a) {;":  26,
		blocks:                     100,
		blocks + " ":               101,
		blocks + "a":               100,
		blocks + "1":               100,
		blocks + ")":               100,
		blocks + "else":            100,
		blocks + "return ;":        107,
		blocks + "throw":           105,
		blocks + "if {":            103,
		blocks + "while 1":         106,
		blocks + "let a = ":        108,
		blocks + "try {}":          105,
		blocks + "try { ":          106,
	} {
		refused(t, s, at, api.ErrDeep)
	}
	// Where something is missing ahead of what would be too deep, that is told.
	for s, at := range map[string]int{
		brackets[1:] + "fn(a) a":      25,
		brackets[1:] + "fn(1) {":      22,
		brackets[1:] + "{b }":         22,
		brackets[1:] + "a.(":          21,
		blocks + "let 1 = ":           104,
		blocks + "let a a":            106,
		blocks + "try }":              104,
		blocks + "}":                  101,
		blocks + "} else a":           107,
		blocks[5:] + "try {} catch e": 109,
	} {
		refused(t, s, at, api.ErrForm)
	}
}

func TestWhatIsNoDeeper(t *testing.T) { // P7.1: things side by side, as many as come
	const n = 500
	for _, s := range []string{
		"a" + strings.Repeat(".b", n) + ";",
		"a" + strings.Repeat("[b]", n) + ";",
		"a" + strings.Repeat("()", n) + ";",
		"a" + strings.Repeat("(b, c)", n) + ";",
		"a" + strings.Repeat(" + b", n) + ";",
		"a" + strings.Repeat(" * -b", n) + " < c;",
		"a" + strings.Repeat(" - (b)", n) + ";",
		"a(b" + strings.Repeat(", b", n) + ");",
		"a = {b: 1" + strings.Repeat(", b: 1", n) + "};",
		"a = fn(b" + strings.Repeat(", b", n) + ") { };",
		strings.Repeat("(a);", n),
		strings.Repeat("if a { b; }", n),
		strings.Repeat("if a { b; } else { }", n/2),
		strings.Repeat("while -a { }", n),
		strings.Repeat("try { } catch a { }", n/2),
		strings.Repeat("fn() { a; };", n),
		strings.Repeat("{a: -1}.b = (1);", n),
	} {
		l, at, e := Parse(s)
		if len(l) == 0 || at != 0 || e != api.OK {
			t.Errorf("%.40q: place %d, error %d", s, at, e)
		}
	}
	// What is there behind something deep is as deep as it was ahead of it.
	deep := strings.Repeat("(", 19) + "a" + strings.Repeat(")", 19) + ";"
	in := strings.Repeat("(", 18) + "a" + strings.Repeat(")", 18)
	blocks := strings.Repeat("while a {", 19) + "a;" + strings.Repeat("}", 19)
	for _, s := range []string{deep + deep, blocks + deep + blocks, "a(" + in + ", " + in + ");", strings.Repeat("-", 19) + "a + " + strings.Repeat("-", 19) + "a;"} {
		if e := held(t, rules(), s); e != api.OK {
			t.Errorf("%q: error %d", s, e)
		}
	}
	parsed(t, strings.Repeat("-", 19)+"a * a;", block(do(0, of(tree.Mul, minus(19, a), a))))
}

// minus: so many ahead of x.
func minus(n int, x tree.Expr) tree.Expr {
	for range n {
		x = of(tree.Minus, x)
	}
	return x
}

// numbers: a source of numbers below n that is the same at each run.
func numbers(seed uint64) func(n int) int {
	return func(n int) int {
		seed = seed*6364136223846793005 + 1442695040888963407
		return int((seed >> 33) % uint64(n))
	}
}

// maker makes trees such as are read.
type maker struct{ next func(n int) int }

func (m maker) name() string {
	return []string{"a", "b", "xy", "_", "Z9", "lets", "catch_", "Fn"}[m.next(8)]
}

func (m maker) exprs(n, deep int) []tree.Expr {
	l := make([]tree.Expr, n)
	for i := range l {
		l[i] = m.expr(deep)
	}
	return l
}

func (m maker) expr(deep int) tree.Expr {
	op := tree.Op(m.next(int(tree.Ops)))
	if deep == 0 {
		op = tree.Op(m.next(int(tree.Minus)))
	}
	e := tree.Expr{Op: op}
	switch {
	case op == tree.Number:
		e.Num = int64(m.next(3)) * 617
	case op == tree.Text:
		e.Text = []string{"", "a", "\"", "\\", "\n", "b\"c", "let", ";", "xy", "(", "# "}[m.next(11)]
	case op == tree.Name:
		e.Text = m.name()
	case op == tree.Minus || op == tree.Not:
		e.Parts = m.exprs(1, deep-1)
	case op >= tree.Add && op <= tree.Field:
		e.Parts = m.exprs(2, deep-1)
	case op == tree.Call:
		e.Parts = m.exprs(1+m.next(4), deep-1)
	case op == tree.Record:
		e.Parts = m.exprs(2*m.next(4), deep-1)
	case op == tree.Fn:
		for range m.next(4) {
			e.Params = append(e.Params, m.name())
		}
		e.Body = m.stmts(deep - 1)
	}
	return e
}

func (m maker) stmts(deep int) []tree.Stmt {
	l := make([]tree.Stmt, m.next(4))
	for i := range l {
		l[i] = m.stmt(deep)
	}
	return l
}

func (m maker) stmt(deep int) tree.Stmt {
	s := tree.Stmt{Kind: tree.Kind(m.next(int(tree.Kinds)))}
	if deep == 0 {
		s.Kind = []tree.Kind{tree.Let, tree.Assign, tree.Put, tree.Return, tree.Throw, tree.Do}[m.next(6)]
	}
	if s.Kind == tree.Let || s.Kind == tree.Assign || s.Kind == tree.Try {
		s.Name = m.name()
	}
	if s.Kind == tree.Put {
		s.Exprs = m.exprs(3, deep)
	} else if s.Kind != tree.Try {
		s.Exprs = m.exprs(1, deep)
	}
	if s.Kind == tree.If || s.Kind == tree.While || s.Kind == tree.Try {
		s.Body = m.stmts(deep - 1)
	}
	if s.Kind == tree.If || s.Kind == tree.Try {
		s.Else = m.stmts(deep - 1)
	}
	return s
}

// writer writes trees in the ways in which they may be written: with gaps, notes and brackets where it likes.
type writer struct {
	maker
	text   []byte
	joined bool // nothing stands ahead of the next token
}

// written: the statements' text; and they themselves, standing where they stand in it.
func (w *writer) written(l []tree.Stmt) (string, []tree.Stmt) {
	w.text = nil
	out := w.all(l)
	w.gap()
	return string(w.text), out
}

func (w *writer) gap() {
	w.text = append(w.text, []string{" ", "\n", "  ", "\n\n", "#\n", " # let a = (\n", " ", " "}[w.next(8)]...)
}

// put: tokens, one behind the other.
func (w *writer) put(l ...string) {
	for _, s := range l {
		if n := len(w.text); !w.joined && n > 0 && (w.next(3) > 0 || holds(w.text[n-1], s[0])) {
			w.gap()
		}
		w.joined = false
		w.text = append(w.text, s...)
	}
}

// holds: would these bytes be of one token, without a gap?
func holds(a, b byte) bool {
	const word = "abcdefghijklmnopqrstuvwxyzABCDEFGHIJKLMNOPQRSTUVWXYZ0123456789_"
	return strings.IndexByte(word, a) >= 0 && strings.IndexByte(word, b) >= 0 || strings.IndexByte("=!", a) >= 0 && b == '='
}

func (w *writer) all(l []tree.Stmt) []tree.Stmt {
	var out []tree.Stmt
	for _, s := range l {
		w.gap()
		s.At, w.joined = len(w.text), true
		out = append(out, w.stmt(s))
	}
	return out
}

func (w *writer) block(l []tree.Stmt) []tree.Stmt {
	w.put("{")
	out := w.all(l)
	w.put("}")
	return out
}

func (w *writer) stmt(s tree.Stmt) tree.Stmt {
	s.Exprs = append([]tree.Expr(nil), s.Exprs...)
	switch s.Kind {
	case tree.If, tree.While:
		w.put(map[tree.Kind]string{tree.If: "if", tree.While: "while"}[s.Kind])
		s.Exprs[0] = w.expr(0, s.Exprs[0])
		s.Body = w.block(s.Body)
		if len(s.Else) > 0 || s.Kind == tree.If && w.next(3) == 0 {
			w.put("else")
			s.Else = w.block(s.Else)
		}
		return s
	case tree.Try:
		w.put("try")
		s.Body = w.block(s.Body)
		w.put("catch", s.Name)
		s.Else = w.block(s.Else)
		return s
	case tree.Let:
		w.put("let", s.Name, "=")
	case tree.Assign:
		w.expr(0, name(s.Name))
		w.put("=")
	case tree.Put:
		copy(s.Exprs, w.expr(0, of(tree.Field, s.Exprs[0], s.Exprs[1])).Parts)
		w.put("=")
	case tree.Return:
		w.put("return")
	case tree.Throw:
		w.put("throw")
	}
	last := len(s.Exprs) - 1
	s.Exprs[last] = w.expr(0, s.Exprs[last])
	w.put(";")
	return s
}

// tightly: the signs of two, and how tightly each holds.
var tightly = map[tree.Op]struct {
	sign  string
	tight int
}{tree.Equal: {"==", 0}, tree.Unlike: {"!=", 0}, tree.Less: {"<", 0}, tree.Add: {"+", 1}, tree.Sub: {"-", 1}, tree.Mul: {"*", 2}}

// expr: an expression, in brackets where what stands beside it holds more tightly.
func (w *writer) expr(tight int, e tree.Expr) tree.Expr {
	own := 4
	if two, ok := tightly[e.Op]; ok {
		own = two.tight
	} else if e.Op == tree.Minus || e.Op == tree.Not {
		own = 3
	}
	if own < tight || w.next(9) == 0 {
		w.put("(")
		e = w.expr(0, e)
		w.put(")")
		return e
	}
	e.Parts = append([]tree.Expr(nil), e.Parts...)
	switch two, ok := tightly[e.Op]; {
	case ok:
		left := own
		if own == 0 {
			left = 1
		}
		e.Parts[0] = w.expr(left, e.Parts[0])
		w.put(two.sign)
		e.Parts[1] = w.expr(own+1, e.Parts[1])
	case own == 3:
		w.put(map[tree.Op]string{tree.Minus: "-", tree.Not: "!"}[e.Op])
		e.Parts[0] = w.expr(3, e.Parts[0])
	default:
		return w.thing(e)
	}
	return e
}

func (w *writer) thing(e tree.Expr) tree.Expr {
	switch e.Op {
	case tree.Field:
		e.Parts[0] = w.expr(4, e.Parts[0])
		if w.short(e.Parts[1]) {
			w.put(".", e.Parts[1].Text)
			return e
		}
		w.put("[")
		e.Parts[1] = w.expr(0, e.Parts[1])
		w.put("]")
	case tree.Call:
		e.Parts[0] = w.expr(4, e.Parts[0])
		w.put("(")
		for i := range e.Parts[1:] {
			w.comma(i)
			e.Parts[i+1] = w.expr(0, e.Parts[i+1])
		}
		w.put(")")
	case tree.Record:
		w.put("{")
		for i := 0; i < len(e.Parts); i += 2 {
			w.comma(i)
			if w.short(e.Parts[i]) {
				w.put(e.Parts[i].Text)
			} else {
				w.put("[")
				e.Parts[i] = w.expr(0, e.Parts[i])
				w.put("]")
			}
			w.put(":")
			e.Parts[i+1] = w.expr(0, e.Parts[i+1])
		}
		w.put("}")
	case tree.Fn:
		w.put("fn", "(")
		for i, p := range e.Params {
			w.comma(i)
			w.put(p)
		}
		w.put(")")
		e.Body = w.block(e.Body)
	case tree.Text:
		w.put(tree.Quote(e.Text))
	case tree.Number:
		w.put(fmt.Sprint(e.Num))
	case tree.Name:
		w.put(e.Text)
	default:
		w.put(map[tree.Op]string{tree.Nil: "nil", tree.True: "true", tree.False: "false"}[e.Op])
	}
	return e
}

func (w *writer) comma(i int) {
	if i > 0 {
		w.put(",")
	}
}

// short: is a key one that may be written as a name, and is it to be?
func (w *writer) short(e tree.Expr) bool {
	return e.Op == tree.Text && (e.Text == "a" || e.Text == "xy") && w.next(3) > 0
}

func TestManyTreesAreReadAsTheyWereWritten(t *testing.T) { // P7.1: however they are written
	r := rules()
	w := writer{maker: maker{numbers(72)}}
	deep := 0
	for range 8000 {
		l := w.stmts(1 + w.next(4))
		s, want := w.written(l)
		got, at, e := Parse(s)
		if wantAt, wantE := plain(r, s); wantE != api.OK {
			deep++
			if (wantE != api.ErrDeep && wantE != api.ErrSize) || e != wantE || at != wantAt {
				t.Fatalf("%q: place %d, error %d, not %d, %d", s, at, e, wantAt, wantE)
			}
			continue
		}
		if e != api.OK || at != 0 || !reflect.DeepEqual(bare(got), bare(want)) {
			t.Fatalf("%q: %+v, place %d, error %d, not %+v", s, got, at, e, want)
		}
		if !tree.Same(got, l) {
			t.Fatalf("%q: not the same as %q", s, tree.Print(l))
		}
	}
	if deep > 800 {
		t.Errorf("%d of them are too deep, or too long", deep)
	}
}

// printed: what Parse answers of s is what it answers of its print, unless that is too deep or too long; whether it is.
func printed(t *testing.T, s string) bool {
	t.Helper()
	l, at, e := Parse(s)
	if e != api.OK {
		t.Fatalf("%q: place %d, error %d", s, at, e)
	}
	p := tree.Print(l)
	again, at, e := Parse(p)
	if e == api.ErrDeep || e == api.ErrSize {
		if wantAt, wantE := plain(rules(), p); wantAt != at || wantE != e {
			t.Fatalf("%q: place %d, error %d, not %d, %d", p, at, e, wantAt, wantE)
		}
		return false
	}
	if e != api.OK || at != 0 || !tree.Same(l, again) || tree.Print(again) != p {
		t.Fatalf("%q: %q, place %d, error %d", s, p, at, e)
	}
	return true
}

func TestWhatIsPrintedIsReadAsItWas(t *testing.T) { // P7.2
	for _, s := range []string{
		"", "a;", "a = b;", "(a) = b;", "let a = -1;", "a.b = c;", "(a.b)[c] = -a;", "(-a).b = c;", "-a.b;", "(-a)();", "-(a + b) * c;", "a - (b - c) - a;",
		"(a < b) < c;", "a < (b < c);", "!a == !b;", `a = "\"\\\n#";`, "{};", "{}.a = {b: 1, [c]: {}};", "fn() { }();", "fn(a, b) { return a; }.b = 1;", "(fn() { });",
		"if a { } else { }", "if a { } else { b; }", "if {} { a; } b;", "if fn() { } { }", "while a { if b { } }", "try { } catch e { }", "try { a; } catch e { throw e; } b;",
		"a(b)(c)[d].e(f, (g));", "1.a = 2;", `"a".b;`, "nil.a;", "9223372036854775807;", "- - - -a;", "a--b;", "if a { } (b);", "while a { } -b;", "let a = fn(a, a) { let a = a; a = a; };",
	} {
		if !printed(t, s) {
			t.Errorf("%q: its print is refused", s)
		}
	}
	w := writer{maker: maker{numbers(73)}}
	read := 0
	for range 6000 {
		s, _ := w.written(w.stmts(1 + w.next(3)))
		if _, _, e := Parse(s); e == api.OK && printed(t, s) {
			read++
		}
	}
	if read < 5500 {
		t.Errorf("only %d were read again", read)
	}
}

func TestPrintsThatAreTooDeepOrTooLong(t *testing.T) { // P7.2: the brackets that Print sets may make it so
	for s, want := range map[string]api.Errno{
		"a" + strings.Repeat(" + a", 19) + ";":                                                  api.OK,
		"a" + strings.Repeat(" + a", 20) + ";":                                                  api.ErrDeep,
		"a" + strings.Repeat("+a", 4000) + ";":                                                  api.ErrSize,
		strings.Repeat("-", 9) + "a;":                                                           api.OK,
		strings.Repeat("-", 10) + "a;":                                                          api.ErrDeep,
		"a" + strings.Repeat(".b", 1000) + ";":                                                  api.OK,
		"a" + strings.Repeat(".b", 1636) + ";":                                                  api.OK,
		"a" + strings.Repeat(".b", 1638) + ";":                                                  api.ErrSize,
		strings.Repeat("(", 19) + "a" + strings.Repeat(")", 19) + ";":                           api.OK,
		strings.Repeat("if a { ", 19) + "a;" + strings.Repeat("}", 19):                          api.OK,
		strings.Repeat("if a { ", 19) + "a + a;" + strings.Repeat("}", 19):                      api.ErrDeep,
		strings.Repeat("a;", 4096):                                                              api.ErrSize,
		strings.Repeat("a;\n", 2730):                                                            api.OK,
		strings.Repeat("fn() { return ", 9) + "a" + strings.Repeat("; }", 9) + ";":              api.OK,
		strings.Repeat("fn() { return ", 9) + "a + a" + strings.Repeat("; }", 9) + ";":          api.OK,
		strings.Repeat("fn() { return ", 9) + "a + a + a" + strings.Repeat("; }", 9) + ";":      api.ErrDeep,
		strings.Repeat("fn() { return ", 9) + "a < (a + a)" + strings.Repeat("; }", 9) + ";":    api.ErrDeep,
		strings.Repeat("fn() { return ", 9) + "a.a.a" + strings.Repeat("; }", 9) + ";":          api.OK,
		strings.Repeat("fn() { return ", 9) + "{a: 1}.a(1)" + strings.Repeat("; }", 9) + ";":    api.OK,
		strings.Repeat("fn() { return ", 8) + "a[a[a[1]]]" + strings.Repeat("; }", 8) + ";":     api.OK,
		strings.Repeat("fn() { return ", 8) + "{a: a + a}" + strings.Repeat("; }", 8) + ";":     api.OK,
		strings.Repeat("fn() { return ", 9) + "{a: a + a}.b" + strings.Repeat("; }", 9) + ";":   api.ErrDeep,
		strings.Repeat("fn() { return ", 9) + "{a: 1, b: 2}.b" + strings.Repeat("; }", 9) + ";": api.OK,
	} {
		l, at, e := Parse(s)
		if e == api.ErrDeep && want == api.ErrDeep {
			t.Errorf("%.60q: place %d: too deep itself", s, at)
			continue
		}
		if e != api.OK {
			t.Errorf("%.60q: place %d, error %d", s, at, e)
			continue
		}
		if _, at, e := Parse(tree.Print(l)); e != want {
			t.Errorf("%.60q: printed: place %d, error %d, not %d", s, at, e, want)
		}
		if printed(t, s) != (want == api.OK) {
			t.Errorf("%.60q: printed", s)
		}
	}
}

func TestNothingPanics(t *testing.T) { // P1: at any bytes
	r := rules()
	next := numbers(74)
	const bytes = "a1_\"\\n(){}[];,:.=<+-*! \n#?\t\xff\x00"
	for range 30000 {
		b := make([]byte, next(24))
		for i := range b {
			b[i] = bytes[next(len(bytes))]
		}
		held(t, r, string(b))
	}
	for i := range 256 * 256 {
		held(t, r, string([]byte{byte(i), byte(i >> 8)}))
	}
}

func TestAnswersShareNothing(t *testing.T) { // R5, R6: asked again it answers the same, in new memory
	const s = "let f = fn(a, b) { return a.b(1)[2] + 3 * -4 < 5; }; if f == nil { } else { x.y = {z: 1, [2]: {}}; x[1] = x[2]; } try { f(1, 2); } catch e { x = e; }"
	first, _, _ := Parse(s)
	want := fmt.Sprintf("%#v", first)
	second, _, _ := Parse(s)
	spoil(first)
	if got := fmt.Sprintf("%#v", second); got != want {
		t.Errorf("%s, not %s", got, want)
	}
	third, _, _ := Parse(s)
	if got := fmt.Sprintf("%#v", third); got != want {
		t.Errorf("%s, not %s", got, want)
	}
	// No two lists of one answer share memory: what is put behind one is seen in none.
	grow(third)
	if got := fmt.Sprintf("%#v", third); got != want {
		t.Errorf("%s, not %s", got, want)
	}
}

// spoil: every part is changed.
func spoil(l []tree.Stmt) {
	for i := range l {
		spoil(l[i].Body)
		spoil(l[i].Else)
		spoilExprs(l[i].Exprs)
		l[i] = tree.Stmt{Kind: tree.Kinds, At: -1}
	}
}

func spoilExprs(l []tree.Expr) {
	for i := range l {
		spoilExprs(l[i].Parts)
		spoil(l[i].Body)
		for j := range l[i].Params {
			l[i].Params[j] = "?"
		}
		l[i] = tree.Expr{Op: tree.Ops}
	}
}

// grow: something is put behind every list, and isn't kept.
func grow(l []tree.Stmt) {
	_ = append(l, tree.Stmt{Kind: tree.Kinds})
	for _, s := range l {
		grow(s.Body)
		grow(s.Else)
		growExprs(s.Exprs)
	}
}

func growExprs(l []tree.Expr) {
	_ = append(l, tree.Expr{Op: tree.Ops})
	for _, e := range l {
		growExprs(e.Parts)
		_ = append(e.Params, "?")
		grow(e.Body)
	}
}

func TestTokensOfEachKindBegin(t *testing.T) { // P7.1: by its kind, too: a text that means a sign, a word is none
	tokens, _, _ := lex.Split(`a let = 1 ; ( ) { } [ ] . , : + - ! == < if`)
	for _, token := range tokens[:len(tokens)-1] {
		parsed(t, tree.Quote(token.Text)+";", block(do(0, txt(token.Text))))
	}
}
