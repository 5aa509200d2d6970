package scope

import (
	"fmt"
	"slices"
	"strings"
	"testing"

	"paling/api"
	"paling/parse"
	"paling/tree"
)

func TestWordsAreNumberedInOrder(t *testing.T) { // P8.1
	words := []string{"len", "freeze", "frozen", "brand", "kind", "text"}
	for i, w := range words {
		if got := Word(w); got != i {
			t.Errorf("%s: %d, not %d", w, got, i)
		}
	}
	if Words() != len(words) || Words() != 6 {
		t.Errorf("%d words", Words())
	}
}

func TestWhatIsNoWord(t *testing.T) { // P8.1: wrong inputs, and what is nearly a word
	others := []string{"", "a", " ", "0", "-1", "word", "words", "length", "free", "froze", "brands", "kinds", "texts", "nil", "true", "false", "let", "fn", "throw", "revoked", "\x00", "\xff", "ſ", "len freeze", "len,freeze", strings.Repeat("len", 100)}
	for _, w := range []string{"len", "freeze", "frozen", "brand", "kind", "text"} {
		others = append(others, w+w, w[1:], w[:len(w)-1], w+"s", "_"+w, " "+w, w+" ", w+"\x00", w+"\n", strings.ToUpper(w), strings.ToUpper(w[:1])+w[1:], `"`+w+`"`)
	}
	for _, s := range others {
		if got := Word(s); got != -1 {
			t.Errorf("%q: %d", s, got)
		}
	}
}

// function: the tree of a function's text.
func function(t *testing.T, s string) tree.Expr {
	t.Helper()
	l, at, e := parse.Parse(s + ";")
	if e != api.OK || len(l) != 1 || l[0].Kind != tree.Do || l[0].Exprs[0].Op != tree.Fn {
		t.Fatalf("%q: place %d, error %d", s, at, e)
	}
	return l[0].Exprs[0]
}

// has: a function has those names, parted by gaps, free.
func has(t *testing.T, s, want string) {
	t.Helper()
	if got := strings.Join(Free(function(t, s)), " "); got != want {
		t.Errorf("%q: %q, not %q", s, got, want)
	}
}

func TestTheChaptersExample(t *testing.T) { // P8.2
	has(t, "fn(a) { return a + b; }", "b")
}

func TestNamesInExpressions(t *testing.T) { // P8.2: each op, the parts as they stand
	for s, want := range map[string]string{
		"nil": "", "true": "", "false": "", "7": "", `"a"`: "", `""`: "",
		"a":                          "a",
		"-a":                         "a",
		"!a":                         "a",
		"b + a":                      "b a",
		"b - a":                      "b a",
		"b * a":                      "b a",
		"b == a":                     "b a",
		"b != a":                     "b a",
		"b < a":                      "b a",
		"c + b * a":                  "c b a",
		"(c - b) * a":                "c b a",
		"a.b":                        "a",
		`a["b"]`:                     "a",
		"b[a]":                       "b a",
		"c[b][a]":                    "c b a",
		"c[b[a]]":                    "c b a",
		"d()":                        "d",
		"d(c, b, a)":                 "d c b a",
		"d(c)(b).x(a)":               "d c b a",
		"d(c(b), a)":                 "d c b a",
		"d(p, c, p)":                 "d c",
		"{}":                         "",
		"{a: b}":                     "b",
		"{[b]: a}":                   "b a",
		"{x: d, [c]: b, [a]: 1}":     "d c b a",
		"{[d]: {[c]: b}, x: a}":      "d c b a",
		"a + a":                      "a",
		"a + b + a":                  "a b",
		"a(a, b, a)":                 "a b",
		"p":                          "",
		"p + q":                      "",
		"p.a":                        "",
		"p[a]":                       "a",
		"a[p]":                       "a",
		"len(a)":                     "len a",
		"kind":                       "kind",
		"text(freeze(frozen))":       "text freeze frozen",
		"brand() == \"len\"":         "brand",
		"P + pp + _p + p1":           "P pp _p p1",
		"_ + Z9 + lets":              "_ Z9 lets",
		"fn() { }":                   "",
		"fn(a) { }":                  "",
		"fn(a) { return a; }":        "",
		"fn(a) { return b; }":        "b",
		"fn() { return p; }":         "",
		"fn(a) { return a; }(a)":     "a",
		"a(fn(a) { return a + b; })": "a b",
		"fn(a) { return a + c; }(b)": "c b",
		"{[fn() { return b; }]: fn() { return a; }}": "b a",
	} {
		has(t, "fn(p, q) { return "+s+"; }", want)
		has(t, "fn(p, q) { throw "+s+"; }", want)
		has(t, "fn(p, q) { "+s+"; }", want)
		has(t, "fn(p, q) { let z = "+s+"; return z; }", want)
		has(t, "fn(p, q) { p = "+s+"; }", want)
		has(t, "fn(p, q) { p.k = "+s+"; }", want)
		has(t, "fn(p, q) { if "+s+" { } }", want)
		has(t, "fn(p, q) { if p { } else { "+s+"; } }", want)
		has(t, "fn(p, q) { while "+s+" { } }", want)
		has(t, "fn(p, q) { try { "+s+"; } catch z { } }", want)
		has(t, "fn(p, q) { try { } catch z { "+s+"; } }", want)
		has(t, "fn(p) { return fn(q) { "+s+"; }; }", want)
		has(t, "fn(q) { let p = 1; return fn() { return fn() { return "+s+"; }; }; }", want)
	}
}

func TestNamesInStatements(t *testing.T) { // P8.2: what is own where, and what comes first
	for s, want := range map[string]string{
		"fn() { }":              "",
		"fn(a) { }":             "",
		"fn(a) { a; }":          "",
		"fn(a, b) { b; a; c; }": "c",
		"fn(a, a) { a; b; }":    "b",
		"fn() { a; }":           "a",
		"fn() { b; a; b; }":     "b a",
		"fn() { return c; a; }": "c a",
		"fn() { throw c; a; }":  "c a",
		// A let: its value comes ahead of its name, which is own behind it alone.
		"fn() { let a = 1; }":                "",
		"fn() { let a = 1; a; }":             "",
		"fn() { let a = a; }":                "a",
		"fn() { let a = b; a; b; }":          "b",
		"fn() { a; let a = 1; a; }":          "a",
		"fn() { a; let a = 1; a; b; }":       "a b",
		"fn() { let b = a; let a = b; }":     "a",
		"fn() { let a = fn() { a; }; a; }":   "a",
		"fn() { let a = 1; let a = a; a; }":  "",
		"fn(a) { let a = a; a; }":            "",
		"fn() { let len = 1; len; text; }":   "text",
		"fn() { len(1); let len = 1; len; }": "len",
		// A name that is set is used; behind the value.
		"fn() { a = 1; }":            "a",
		"fn() { a = a; }":            "a",
		"fn() { a = b; }":            "b a",
		"fn() { b = a + b; c = b; }": "a b c",
		"fn(a) { a = 1; }":           "",
		"fn(a) { a = b; b = a; }":    "b",
		"fn() { let a = 1; a = 2; }": "",
		"fn() { a = 2; let a = 1; }": "a",
		"fn() { len = 1; }":          "len",
		// A field that is set: as they stand; its name is a text.
		"fn() { a.b = c; }":     "a c",
		"fn() { c[b] = a; }":    "c b a",
		"fn() { d[c][b] = a; }": "d c b a",
		"fn(a) { a[a] = a; }":   "",
		"fn(b) { c[b] = a; }":   "c a",
		// Blocks: behind the question; what is let in one is own up to its end.
		"fn() { if c { b; } else { a; } }":                     "c b a",
		"fn() { while b { a; } }":                              "b a",
		"fn() { if a { let a = 1; a; } }":                      "a",
		"fn() { if b { let a = 1; a; } }":                      "b",
		"fn() { if b { let a = 1; a; } a; }":                   "b a",
		"fn() { if b { let a = 1; } else { a; } }":             "b a",
		"fn() { if b { } else { let a = 1; a; } }":             "b",
		"fn() { if b { } else { let a = 1; a; } a; }":          "b a",
		"fn() { while b { let a = 1; a; } }":                   "b",
		"fn() { while b { let a = 1; a; } a; }":                "b a",
		"fn() { while b { a; let a = 1; } }":                   "b a",
		"fn() { while a { let a = 1; } }":                      "a",
		"fn() { let a = 1; while b { a; } a; }":                "b",
		"fn() { let a = 1; if b { a; } else { a; } a; }":       "b",
		"fn() { let a = 1; if b { let a = 2; a; } a; }":        "b",
		"fn(a) { if b { let a = 2; a; } a; }":                  "b",
		"fn(a) { while a { let a = 2; let a = 3; a; } a; c; }": "c",
		"fn() { if 1 { if 2 { let a = 1; } a; } a; }":          "a",
		"fn() { if 1 { let a = 1; if 2 { a; } a; } b; a; }":    "b a",
		"fn() { if 1 { let b = 1; let a = b; } a; b; }":        "a b",
		"fn() { if 1 { let a = 1; } if 2 { a; } }":             "a",
		// A try: what is caught is own in the catch's block alone.
		"fn() { try { } catch a { } }":                              "",
		"fn() { try { } catch a { a; } }":                           "",
		"fn() { try { a; } catch a { } }":                           "a",
		"fn() { try { a; } catch a { a; } }":                        "a",
		"fn() { try { } catch a { a; } a; }":                        "a",
		"fn() { try { b; } catch c { c; a; } c; }":                  "b a c",
		"fn() { try { let a = 1; a; } catch c { a; } }":             "a",
		"fn() { try { let a = 1; a; } catch c { } a; }":             "a",
		"fn() { try { } catch c { let a = 1; a; } a; }":             "a",
		"fn() { try { } catch a { let a = a; a; } }":                "",
		"fn() { try { } catch a { let a = a; a; } a; }":             "a",
		"fn() { try { } catch a { a = 1; } a = 1; }":                "a",
		"fn() { try { a = 1; } catch a { a = 1; } }":                "a",
		"fn(a) { try { a; } catch a { a; } a; }":                    "",
		"fn() { let a = 1; try { a; } catch a { a; } a; b; }":       "b",
		"fn() { try { try { } catch a { } a; } catch b { } }":       "a",
		"fn() { try { } catch a { try { } catch b { a; b; } b; } }": "b",
		"fn() { try { } catch len { len; } }":                       "",
	} {
		has(t, s, want)
	}
}

func TestFunctionsWithin(t *testing.T) { // P8.2: what isn't the inner one's own is used, or set, where that stands
	for s, want := range map[string]string{
		"fn() { fn() { a; }; }":                                       "a",
		"fn() { fn() { a = 1; }; }":                                   "a",
		"fn() { fn() { a = b; }; }":                                   "b a",
		"fn() { fn(a) { a; }; }":                                      "",
		"fn() { fn(a) { a; }; a; }":                                   "a",
		"fn(a) { fn() { a; b; }; }":                                   "b",
		"fn(a) { fn() { a = 1; }; }":                                  "",
		"fn(a) { fn(a) { a; }; a; }":                                  "",
		"fn(a) { fn(b) { a; b; }; b; }":                               "b",
		"fn() { let a = 1; fn() { a; }; }":                            "",
		"fn() { fn() { a; }; let a = 1; }":                            "a",
		"fn() { let a = fn() { return a; }; a; }":                     "a",
		"fn() { fn() { let a = 1; a; }; }":                            "",
		"fn() { fn() { let a = 1; a; }; a; }":                         "a",
		"fn() { fn() { let a = a; }; }":                               "a",
		"fn() { fn() { a; let a = 1; }; }":                            "a",
		"fn() { if b { let a = 1; fn() { a; }; } fn() { a; }; }":      "b a",
		"fn() { try { fn() { a; }; } catch a { fn() { a; }; } }":      "a",
		"fn() { try { } catch a { fn() { a; }; } }":                   "",
		"fn() { fn() { try { } catch a { a; } a; }; }":                "a",
		"fn(a) { fn(b) { fn(c) { a; b; c; d; }; c; }; b; }":           "d c b",
		"fn(a) { fn(a) { fn(a) { a; }; a; }; a; }":                    "",
		"fn() { fn(a) { fn(b) { fn() { a; b; c; }; }; b; }; a; }":     "c b a",
		"fn() { fn() { fn() { fn() { a = 1; }; }; }; }":               "a",
		"fn() { d(fn(c) { return c + b; }, a); }":                     "d b a",
		"fn() { a = fn() { b; a; }; }":                                "b a",
		"fn() { while fn() { c; } { fn() { b; }; } fn() { a; }; }":    "c b a",
		"fn(f) { fn(g) { let h = f; fn() { f; g; h; i; }; }; g; h; }": "i g h",
	} {
		has(t, s, want)
	}
}

func TestManyNames(t *testing.T) { // P8.2: however many there are, in any order
	var used, own, want []string
	for i := range 300 {
		n := fmt.Sprintf("n%d", i*7919%300)
		used = append(used, n)
		if i%3 == 0 {
			own = append(own, n)
		} else {
			want = append(want, n)
		}
	}
	has(t, "fn() { "+strings.Join(used, "; ")+"; }", strings.Join(used, " "))
	has(t, "fn("+strings.Join(own, ", ")+") { "+strings.Join(used, "; ")+"; "+strings.Join(used, " + ")+"; }", strings.Join(want, " "))
	has(t, "fn("+strings.Join(used, ", ")+") { "+strings.Join(used, "; ")+"; }", "")
	has(t, "fn() { let "+strings.Join(own, " = 1; let ")+" = 1; "+strings.Join(used, "; ")+"; }", strings.Join(want, " "))
	has(t, "fn() { if 1 { let "+strings.Join(own, " = 1; let ")+" = 1; } "+strings.Join(used, "; ")+"; }", strings.Join(used, " "))
}

func TestDeepTrees(t *testing.T) { // P8.2, P1: as deep as they are read, and deeper
	const most = api.MaxDeep - 3
	has(t, strings.Repeat("fn(a) { return ", 9)+"a + b"+strings.Repeat("; }", 9), "b")
	has(t, "fn() { "+strings.Repeat("if a { let b = 1; ", most)+"b + c;"+strings.Repeat(" }", most)+" b; }", "a c b")
	has(t, "fn(p) { p"+strings.Repeat(" + p", 1500)+" + q; }", "q")
	e := tree.Expr{Op: tree.Name, Text: "a"}
	for range 20000 {
		e = tree.Expr{Op: tree.Fn, Params: []string{"b"}, Body: []tree.Stmt{{Kind: tree.Do, Exprs: []tree.Expr{e}}}}
	}
	if got := Free(e); !slices.Equal(got, []string{"a"}) {
		t.Errorf("%q", got)
	}
}
