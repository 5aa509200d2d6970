package compile

import (
	"fmt"
	"reflect"
	"slices"
	"strings"
	"testing"

	"paling/api"
	"paling/code"
	"paling/parse"
	"paling/scope"
	"paling/tree"
	"paling/value"
)

// goes: a text goes wrong so, at the place where the sign ~ stands in it (which is no part of it); or where none does at 0.
func goes(t *testing.T, s string, want api.Errno) {
	t.Helper()
	at := max(strings.Index(s, "~"), 0)
	s = strings.Replace(s, "~", "", 1)
	m, place, e := Read(s)
	if place != at || e != want || len(m.Funcs) > 0 {
		t.Errorf("%q: place %d, error %d, %d functions, not %d, %d", s, place, e, len(m.Funcs), at, want)
	}
	l, _, e := parse.Parse(s)
	if e != api.OK {
		return
	}
	if m, place, e := Module(l); place != at || e != want || len(m.Funcs) > 0 {
		t.Errorf("the tree of %q: place %d, error %d, %d functions, not %d, %d", s, place, e, len(m.Funcs), at, want)
	}
}

func TestTheChaptersExample(t *testing.T) { // P10.1
	goes(t, "let a = b;", api.ErrNone)
}

func TestWhatIsNotReadGoesWrongAsThere(t *testing.T) { // P10.1: parse's error, and its place
	for s, want := range map[string]api.Errno{
		"a~":                                     api.ErrForm,
		"a; b; let ~if = 1;":                     api.ErrForm,
		"b; ~?":                                  api.ErrForm,
		"~\"a":                                   api.ErrForm,
		"b; ~007;":                               api.ErrRange,
		"b; c; ~1 = 2;":                          api.ErrKind,
		"fn() { fn() { ~2 = 1; }; }":             api.ErrKind,
		strings.Repeat("-", api.MaxDeep) + "~a;": api.ErrDeep,
		strings.Repeat(" ", api.MaxSource+1):     api.ErrSize,
	} {
		goes(t, s, want)
	}
}

func TestNamesThatAreNotSeen(t *testing.T) { // P10.1, ErrNone
	for _, s := range []string{
		"a;", "-a;", "!a;", "1 + a;", "a - 1;", "1 * a;", "a == 1;", "1 != a;", "a < 1;", "a.b;", "len[a];", "a();", "len(a);", "len(1, a);",
		"{a: a};", "{[a]: 1};", "{b: 1, [1]: a};", "return a;", "throw a;", "let a = a;", "let b = a;",
		"a.b = 1;", "len[a] = 1;", "len.a = a;", "if a { }", "while a { }",
		"lens;", "Len;", "_;", "l;", "words;",
		// A name is seen behind its let alone, up to the end of its block.
		"~a; let a = 1;",
		"let b = 1; ~b + a; let a = 1;",
		"let b = 1; if b { ~a; } let a = 1;",
		"if true { let a = 1; } ~a;",
		"if true { let a = 1; } else { ~a; }",
		"if true { } else { let a = 1; a; } ~a;",
		"while true { let a = 1; a; } ~a;",
		"while true { ~a; let a = 1; }",
		"try { let a = 1; } catch b { ~a; }",
		"try { let a = 1; } catch b { } ~a;",
		"try { } catch b { let a = 1; } ~a;",
		"try { } catch a { a; } ~a;",
		"try { ~a; } catch a { a; }",
		"if true { if true { let a = 1; } ~a; }",
		"if true { if true { let a = 1; } if true { ~a; } }",
		// A function's own are its own.
		"fn(a) { a; }; ~a;",
		"fn(a) { a; } + a;",
		"fn() { let a = 1; a; }; ~a;",
		"fn() { ~a; };",
		"fn(b) { fn(c) { ~a; }; };",
		"fn(b) { fn(a) { }; ~a; };",
		"fn() { ~a; let a = 1; };",
		"fn() { ~a; }; let a = 1;",
		"let b = fn() { ~a; }; let a = 1;",
		"let a = fn() { ~a; };",
		"if true { let a = 1; } fn() { ~a; };",
		"fn() { try { } catch a { a; } ~a; };",
		"fn() { try { ~a; } catch a { a; } };",
		"fn(b) { b.c = fn() { b; ~a; }; };",
		"fn(a) { a; }(a);",
		// What is set must be seen; a word of the language doesn't do there.
		"a = 1;", "a = a;", "len = 1;", "text = len;",
		"let b = 1; ~a = b;",
		"~a = 1; let a = 2;",
		"if true { let a = 1; } ~a = 2;",
		"try { } catch a { a = 1; } ~a = 2;",
		"fn() { ~a = 1; };",
		"fn() { ~len = 1; };",
		"fn() { let len = 1; len = 2; fn() { len; }; }; ~len = 3;",
		"fn(a) { a = 1; }; ~a = 1;",
	} {
		goes(t, s, api.ErrNone)
	}
}

func TestNamesThatAreHeldAndSet(t *testing.T) { // P10.1, ErrKind
	for _, s := range []string{
		"let a = 1; fn() { ~a = 2; };",
		"let a = 1; fn() { a; ~a = a; };",
		"let a = 1; fn() { if a { ~a = 2; } };",
		"let a = 1; fn() { while a { ~a = 2; } };",
		"let a = 1; fn() { try { ~a = 2; } catch b { } };",
		"let a = 1; fn() { try { } catch b { ~a = 2; } };",
		"let a = 1; fn() { fn() { ~a = 2; }; };",
		"let a = 1; fn(b) { b = 2; fn(c) { c = 3; ~a = 2; }; };",
		"let a = 1; fn(b) { b = 2; fn(c) { c = 3; ~b = 2; }; };",
		"fn(a) { a = 1; fn() { ~a = 2; }; };",
		"try { } catch a { a = 1; fn() { ~a = 2; }; }",
		"let len = 1; fn() { ~len = 2; };",
		"let a = fn() { 1; }; let b = fn() { ~a = 2; };",
		// It is no name of its own behind the block in which it is let either.
		"let a = 1; fn() { ~a = 2; if true { let a = 3; } };",
	} {
		goes(t, s, api.ErrKind)
	}
}

func TestNamesThatAreSeenAlready(t *testing.T) { // P10.1, ErrTwice
	for _, s := range []string{
		"let a = 1; ~let a = 2;",
		"let a = 1; ~let a = a;",
		"let a = 1; if a { ~let a = 2; }",
		"let a = 1; if a { } else { ~let a = 2; }",
		"let a = 1; while a { ~let a = 2; }",
		"let a = 1; try { ~let a = 2; } catch b { }",
		"let a = 1; try { } catch b { ~let a = 2; }",
		"let a = 1; ~try { } catch a { }",
		"let a = 1; if a { if a { ~try { } catch a { } } }",
		"try { } catch a { ~let a = 1; }",
		"try { } catch a { if a { ~let a = 1; } }",
		"try { } catch a { ~try { } catch a { } }",
		"fn(a, a) { };",
		"fn(a, b, c, a) { };",
		"1; ~let f = fn(a, b, b) { };",
		"fn() { 1; ~return fn(a, a) { }; };",
		"fn(a) { ~let a = 1; };",
		"fn(a) { if a { ~let a = 1; } };",
		"fn(a) { ~try { } catch a { } };",
		"fn(a) { try { ~let a = 1; } catch b { } };",
		"fn(a) { fn(b) { ~let b = 1; }; };",
		"fn() { let a = 1; ~let a = 2; };",
		// A name that is held is seen in the whole function.
		"let a = 1; fn() { ~let a = a; };",
		"let a = 1; fn() { a; ~let a = 2; };",
		"let a = 1; fn() { if true { ~let a = 2; } a; };",
		"let a = 1; fn() { try { a; } catch b { } ~try { } catch a { } };",
		"let a = 1; fn() { ~try { a; } catch a { } };",
		"let a = 1; fn() { fn() { a; }; ~let a = 2; };",
		"let a = 1; fn() { ~let a = fn() { a; }; };",
		"let len = 1; fn() { len; ~let len = 2; };",
	} {
		goes(t, s, api.ErrTwice)
	}
}

func TestNamesThatMayComeOnceMore(t *testing.T) { // P10.1: none of them is seen there
	for s, want := range map[string]string{
		"if true { let a = 1; } let a = 2; return a;":                                                     "2",
		"if true { let a = 1; } else { let a = 2; } while false { let a = 3; } let a = 4; return a;":      "4",
		"if false { let a = 1; } else { let a = 2; return a; }":                                           "2",
		"try { let a = 1; } catch a { } try { throw 3; } catch a { return a; }":                           "3",
		"try { throw 1; } catch a { } let a = 2; return a;":                                               "2",
		"try { let a = 1; throw a + 1; } catch a { let b = a; return b; }":                                "2",
		"let a = 1; let f = fn(a) { return a; }; return f(2) + a;":                                        "3",
		"let a = 1; let f = fn() { let a = 2; return a; }; return f() + a;":                               "3",
		"let a = 1; let f = fn() { let a = 2; a = 3; return a; }; return f() + a;":                        "4",
		"let a = 1; let f = fn() { try { throw 2; } catch a { return a; } }; return f() + a;":             "3",
		"let a = 1; return fn() { if true { let a = 2; } let a = 3; return a; }() + a;":                   "4",
		"return fn(a) { return fn(a) { return fn(a) { return a; }(a + 1); }(a + 1); }(1);":                "3",
		"return fn(a) { return a; }(1) + fn(a) { return a; }(2);":                                         "3",
		"let f = fn() { let f = 2; return f; }; return f();":                                              "2",
		"let len = 1; return len;":                                                                        "1",
		"fn(len) { return len; }; return len(\"ab\");":                                                    "2",
		"let l = len(\"ab\"); let len = l; return len;":                                                   "2",
		"return fn() { let l = len(\"abc\"); let len = 1; return l + len; }();":                           "4",
		"if true { let text = 1; } return text(2);":                                                       "\"2\"",
		"try { throw 1; } catch kind { kind; } return kind(1);":                                           "\"int\"",
		"let a = 1; let f = fn() { return kind(a); }; if true { let kind = 2; } return f();":              "\"int\"",
		"let a = 7; let f = fn(b) { if b { let c = a; return c; } let c = 5; return c; }; return f(nil);": "5",
	} {
		answers(t, s, want)
	}
}

func TestTheFirstErrorIsTold(t *testing.T) { // P10.1: in the order in which parts stand, at the innermost statement
	for s, want := range map[string]api.Errno{
		"let a = 1; ~let a = 2; b;":                                                   api.ErrTwice,
		"let a = 1; ~b; let a = 2;":                                                   api.ErrNone,
		"let a = 1; ~let a = b;":                                                      api.ErrNone, // its value comes ahead
		"let a = 1; let a = fn() { ~b; };":                                            api.ErrNone,
		"let a = 1; try { ~b; } catch a { }":                                          api.ErrNone, // its body comes ahead
		"let a = 1; ~try { } catch a { b; }":                                          api.ErrTwice,
		"let a = 1; fn() { ~a = b; };":                                                api.ErrKind, // a name stands ahead of what it is set to
		"let a = 1; fn() { ~a = fn() { b; }; };":                                      api.ErrKind,
		"~a = fn() { let b = 1; let b = 2; };":                                        api.ErrNone,
		"let a = 1; a = fn() { ~b; };":                                                api.ErrNone,
		"fn(a, a) { b; };":                                                            api.ErrTwice,
		"fn(a, b, b) { a; };":                                                         api.ErrTwice,
		"b + fn(a, a) { };":                                                           api.ErrNone,
		"fn(a, a) { } + b;":                                                           api.ErrTwice,
		"fn() { ~b; } + fn(a, a) { };":                                                api.ErrNone,
		"fn() { } + fn(a, a) { } + fn() { b; };":                                      api.ErrTwice,
		"fn() { ~b; }(fn(a, a) { });":                                                 api.ErrNone,
		"kind(fn(a, a) { }, b);":                                                      api.ErrTwice,
		"kind(1, fn() { ~b; }, fn(a, a) { });":                                        api.ErrNone,
		"{a: fn(a, a) { }, b: c};":                                                    api.ErrTwice,
		"{a: fn() { ~b; }, b: fn(a, a) { }};":                                         api.ErrNone,
		"{[fn() { ~b; }]: fn(a, a) { }};":                                             api.ErrNone,
		"fn() { ~b; }.c[fn(a, a) { }];":                                               api.ErrNone,
		"len[fn() { ~b; }] = fn(a, a) { };":                                           api.ErrNone,
		"fn(a, a) { }[b] = fn() { c; };":                                              api.ErrTwice,
		"if b { let a = 1; let a = 2; }":                                              api.ErrNone,
		"if fn() { ~b; } { fn(a, a) { }; }":                                           api.ErrNone,
		"if true { ~fn(a, a) { }; } else { b; }":                                      api.ErrTwice,
		"if true { ~b; } else { fn(a, a) { }; }":                                      api.ErrNone,
		"while fn(a, a) { } { b; }":                                                   api.ErrTwice,
		"while true { ~b; } fn(a, a) { };":                                            api.ErrNone,
		"try { ~fn(a, a) { }; } catch c { b; }":                                       api.ErrTwice,
		"try { } catch c { ~b; } fn(a, a) { };":                                       api.ErrNone,
		"~return fn() { let a = 1; return a; } + b; c;":                               api.ErrNone, // behind inner statements the outer one's place is told again
		"1; ~kind(fn() { 2; if true { 3; } }, b);":                                    api.ErrNone,
		"1; ~{a: fn() { 2; }, b: fn() { 3; }, [c]: 4};":                               api.ErrNone,
		"1; ~let a = fn() { try { 1; } catch b { 2; } }(c);":                          api.ErrNone,
		"let a = 1; 2; ~let a = fn() { 3; };":                                         api.ErrTwice,
		"let a = 1; 2; ~try { 3; 4; } catch a { 5; }":                                 api.ErrTwice,
		"1; fn(a) { 2; ~kind(fn() { 3; }, fn(b, b) { 4; }); };":                       api.ErrTwice,
		"if true { 1; fn() { 2; while true { 3; try { 4; } catch a { 5; ~b; } } }; }": api.ErrNone,
		"fn() { 1; };\n# let a = a;\n  ~a = 2;":                                       api.ErrNone,
		"let a = 1; fn() { kind(a, fn() { 1; ~kind(fn() { }, 2, fn(c, d, c) { }); }); }; ": api.ErrTwice,
	} {
		goes(t, s, want)
	}
}

// shape: of each function of a text's module how many parameters it has, and which registers it holds.
func shape(t *testing.T, s string) string {
	t.Helper()
	out := ""
	for _, f := range read(t, s).Funcs {
		out += fmt.Sprint(f.Params, len(f.Held), " ")
	}
	return strings.TrimSpace(out)
}

func TestFunctionsAndWhatTheyHold(t *testing.T) { // P10.1: one for the module, one for each fn, in the order in which they stand
	for s, want := range map[string]string{
		"":                         "0 0",
		"1;":                       "0 0",
		"len;":                     "0 0",
		"fn() { };":                "0 0 0 0",
		"fn(a) { }; fn(a, b) { };": "0 0 1 0 2 0",
		"fn(a) { fn(a, b) { }; }; fn(a, b, c) { };":    "0 0 1 0 2 0 3 0",
		"let a = 1; fn() { };":                         "0 0 0 0",
		"let a = 1; fn() { a; };":                      "0 0 0 1",
		"let a = 1; fn() { a; a + a; };":               "0 0 0 1",
		"let a = 1; let b = 2; fn(c) { b; a; c; };":    "0 0 1 2",
		"let a = 1; fn(a) { a; };":                     "0 0 1 0",
		"let a = 1; fn() { let a = 1; a; };":           "0 0 0 0",
		"let a = 1; fn() { fn(b) { a; }; };":           "0 0 0 1 1 1", // through those around it
		"let a = 1; fn(b) { fn(c) { a; b; c; }; };":    "0 0 1 1 1 2",
		"let a = 1; fn() { len(a, kind, text); };":     "0 0 0 1", // a word isn't held
		"let len = 1; fn() { len; };":                  "0 0 0 1",
		"let a = 1; if a { let b = 2; fn() { b; }; }":  "0 0 0 1",
		"let a = 1; if a { let b = 2; } fn(b) { b; };": "0 0 1 0",
		"try { } catch a { fn() { a; }; }":             "0 0 0 1",
	} {
		if got := shape(t, s); got != want {
			t.Errorf("%q: %s, not %s", s, got, want)
		}
	}
}

func TestValuesAndSigns(t *testing.T) { // P10.1, chapter 17: what expressions mean
	for s, want := range map[string]string{
		"":                                  "nil",
		"1;":                                "nil",
		"return nil;":                       "nil",
		"return true;":                      "true",
		"return false;":                     "false",
		"return 0;":                         "0",
		"return 7;":                         "7",
		"return 9223372036854775807;":       "9223372036854775807",
		"return -9223372036854775807 - 1;":  "-9223372036854775808",
		`return "";`:                        `""`,
		`return "a\"\n";`:                   `"a\"\n"`,
		"return len;":                       "word 0",
		"return freeze;":                    "word 1",
		"return frozen;":                    "word 2",
		"return brand;":                     "word 3",
		"return kind;":                      "word 4",
		"return text;":                      "word 5",
		"return -5;":                        "-5",
		"return --5;":                       "5",
		"return !5;":                        "false",
		"return !!5;":                       "true",
		"return !nil;":                      "true",
		"return -nil;":                      `throws "kind"`,
		"return 7 - 2 - 1;":                 "4",
		"return 7 - (2 - 1);":               "6",
		"return 2 + 3 * 4;":                 "14",
		"return (2 + 3) * 4;":               "20",
		"return 2 * 3 + 4 * 5;":             "26",
		`return "a" + "b" + "c";`:           `"abc"`,
		`return "a" + 1;`:                   `throws "kind"`,
		"return 1 < 2;":                     "true",
		"return 2 < 1;":                     "false",
		`return "a" < "b";`:                 "true",
		"return 1 == 1;":                    "true",
		"return 1 != 1;":                    "false",
		`return 1 == "1";`:                  "false",
		"return nil == false;":              "false",
		"return len == len;":                "true",
		"return {} == {};":                  "false",
		"let a = {}; return a == a;":        "true",
		"return kind({});":                  `"record"`,
		"return kind(fn() { });":            `"function"`,
		"return {a: 1}.a;":                  "1",
		"return {a: 1}.b;":                  "nil",
		"return {a: 1, b: 2, a: 3}.a;":      "3",
		"return len({a: 1, b: 2, a: nil});": "1",
		"return {[1]: 2}[1];":               "2",
		"return {a: {b: {c: 4}}}.a.b.c;":    "4",
		"return {a: 1}[nil];":               `throws "kind"`,
		"return 1 .a;":                      `throws "kind"`,
		"return {[{}]: 1};":                 `throws "kind"`,
		"let a = {}; a.b = 1; return a.b;":  "1",
		"let a = {}; a.b = 1; a.b = nil; return len(a);": "0",
		"let a = {b: {}}; a.b.c = 5; return a.b.c;":      "5",
		"let a = {}; a[1 + 1] = 2 + 3; return a[2];":     "5",
		"let a = {}; a.a = a; return a.a.a == a;":        "true",
		"1 .a = 2;":                              `throws "kind"`,
		"let a = 1; a = a + 1; return a;":        "2",
		"let a = 1; a = a; return a;":            "1",
		"let a = 1; let b = a; a = 2; return b;": "1",
		"let a = 1; let b = 2; let c = a; a = b; b = c; return a * 10 + b;": "21",
		"let a = {x: 1}; a = {y: a, x: a.x + 1}; return a.y.x * 10 + a.x;":  "12", // what it was stays till it is set
		"let a = 1; a = {b: a, c: -a}; return a.b - a.c;":                   "2",
		"let a = 3; a = fn(b) { return b + a; }(a); return a;":              "6",
		"let a = 3; a = a * a - a; return a;":                               "6",
		"let a = 3; a = len({a: a}) + a; return a;":                         "4",
		"return fn() { }();": "nil",
	} {
		answers(t, s, want)
	}
}

func TestCallsAndClosures(t *testing.T) { // P10.1, chapter 17
	for s, want := range map[string]string{
		"let a = 1; let f = fn(b) { return a + b; }; return f(2);":                                                                                          "3",
		"return fn(a) { return a + 1; }(4);":                                                                                                                "5",
		"return fn(a, b, c) { return {a: a, b: b, c: c}; }(1, 2).c;":                                                                                        "nil",
		"return fn(a, b) { return a - b; }(5, 3, 7, 9);":                                                                                                    "2",
		"return fn(a, b, c, d, e, f, g, h) { return a - b - c - d - e - f - g - h; }(99, 1, 2, 3, 4, 5, 6, 7);":                                             "71",
		"let f = fn(a) { a = a + 1; return a; }; let a = 1; return f(a) * 10 + a;":                                                                          "21",
		"let a = 1; let f = fn() { return a; }; a = 2; return f() * 10 + a;":                                                                                "12", // its value there and then
		"let a = 1; let f = fn() { return fn() { return a; }; }; a = 2; let g = f(); return g();":                                                           "1",
		"let f = fn(a) { let g = fn() { return a; }; a = a + 1; return g() * 10 + a; }; return f(1);":                                                       "12",
		"let l = {}; let i = 0; while i < 3 { let j = i; l[i] = fn() { return j; }; i = i + 1; } return l[0]() * 100 + l[1]() * 10 + l[2]();":               "12",
		"let l = {}; let i = 0; while i < 3 { l[i] = fn() { return i; }; i = i + 1; } return l[0]() * 100 + l[1]() * 10 + l[2]();":                          "12",
		"let r = {n: 0}; let f = fn() { r.n = r.n + 1; return r.n; }; f(); f(); return f();":                                                                "3",
		"let a = 1; let b = 2; let c = 3; return fn(d) { return c * 1000 + a * 100 + b * 10 + d; }(4);":                                                     "3124",
		"let a = 1; let b = 2; return fn(c, d) { let e = 5; return fn(f) { return {a: a, b: b, c: c, d: d, e: e, f: f}; }(6); }(3, 4).e;":                   "5",
		"let a = 1; let b = 2; return fn(c, d) { let e = 5; return fn(f) { return a + b * 10 + c * 100 + d * 1000 + e * 10000 + f * 100000; }(6); }(3, 4);": "654321",
		"let f = fn(f, n) { if n < 2 { return 1; } return n * f(f, n - 1); }; return f(f, 5);":                                                              "120",
		"let c = fn(f) { return fn(x) { return f(f(x)); }; }; return c(c(fn(x) { return x + 3; }))(1);":                                                     "13",
		"return len(\"abc\");":                         "3",
		"return len;":                                  "word 0",
		"let l = len; return l(\"ab\");":               "2",
		"return text(12) + text(3);":                   `"123"`,
		"return {f: len}.f(\"abcd\");":                 "4",
		"return fn(f) { return f(1); }(text);":         `"1"`,
		"return 1();":                                  `throws "kind"`,
		"return nil(1, 2);":                            `throws "kind"`,
		"return len(1);":                               `throws "kind"`,
		"let f = fn(f) { return f(f); }; return f(f);": `throws "deep"`,
		"try { throw fn(a) { return a; }; } catch f { return f(6); }":                          "6",
		"try { throw 5; } catch a { let f = fn() { return a; }; a = 6; return f() * 10 + a; }": "56",
	} {
		answers(t, s, want)
	}
}

func TestWhatIsDoneWhere(t *testing.T) { // P10.1, chapter 17: If, While, Try, Return, Throw
	for s, want := range map[string]string{
		"if true { return 1; } return 2;":           "1",
		"if nil { return 1; } return 2;":            "2",
		"if 0 { return 1; } return 2;":              "1",
		`if "" { return 1; } else { return 2; }`:    "1",
		"if false { return 1; } else { return 2; }": "2",
		"if false { } else { return 2; } return 3;": "2",
		"if true { } else { return 2; } return 3;":  "3",
		"if true { }":           "nil",
		"if false { } else { }": "nil",
		"let a = 1; if a == 1 { a = 2; } else { a = 3; } return a;":                               "2",
		"let a = 1; if a == 2 { a = 2; } else { if a == 1 { a = 4; } else { a = 5; } } return a;": "4",
		"let i = 0; while i < 5 { i = i + 1; } return i;":                                         "5",
		"while false { return 1; } return 2;":                                                     "2",
		"while true { return 1; }":                                                                "1",
		"while true { }":                                                                          "no fuel",
		"let i = 0; let s = 0; while i < 3 { let j = 0; while j < 3 { s = s + i * j; j = j + 1; } i = i + 1; } return s;": "9",
		"let i = 0; while true { i = i + 1; if i == 4 { return i; } }":                                                    "4",
		"let i = 0; while i < 3 { try { i = i + 1; throw i; } catch e { if e == 2 { return e; } } }":                      "2",
		"throw 1;":   "throws 1",
		"throw nil;": "throws nil",
		"try { throw 1; } catch e { return e + 1; } return 5;":                                                                         "2",
		"try { 1; } catch e { return 2; } return 3;":                                                                                   "3",
		"try { return 1; } catch e { return 2; } return 3;":                                                                            "1",
		"try { nil(); } catch e { return e; }":                                                                                         `"kind"`,
		"try { throw 1; } catch e { } return 3;":                                                                                       "3",
		"try { throw 1; } catch e { throw e + 1; }":                                                                                    "throws 2",
		"try { 1; } catch e { } throw 2;":                                                                                              "throws 2", // behind it nothing is caught
		"try { try { throw 1; } catch e { throw e + 1; } } catch f { return f + 10; }":                                                 "12",
		"try { try { throw 1; } catch e { } throw 2; } catch f { return f; }":                                                          "2",
		"try { try { 1; } catch e { return 1; } throw 2; } catch f { return f; }":                                                      "2",
		"try { try { throw 1; } catch e { try { throw 2; } catch g { throw e + g; } } } catch f { return f; }":                         "3",
		"try { fn() { throw 1; }(); } catch e { return e; }":                                                                           "1",
		"try { fn() { try { throw 1; } catch e { throw e + 1; } }(); } catch e { return e; }":                                          "2",
		"try { fn() { try { 1; } catch e { } throw 5; }(); } catch e { return e; }":                                                    "5",
		"let f = fn() { try { return 1; } catch e { } }; try { f(); throw 2; } catch e { return e; }":                                  "2",
		"let a = 1; try { a = 2; throw 3; } catch e { return a * 10 + e; }":                                                            "23",
		"let a = 1; try { a = nil(); } catch e { return a; }":                                                                          "1", // what throws sets nothing
		"let a = 1; try { a = {b: nil()}; } catch e { return a; }":                                                                     "1",
		"let a = 1; try { a = 1 + nil; } catch e { return a; }":                                                                        "1",
		"let a = 1; try { let b = 2; let c = 3; a = b + c; throw 4; } catch e { let d = 6; return a * 100 + e * 10 + d; }":             "546",
		"let a = 1; try { let b = 2; try { let c = 3; throw a + b + c; } catch d { let e = 4; throw d + e; } } catch f { return f; }":  "10",
		"let i = 0; let s = 0; while i < 3 { try { if i == 1 { throw 10; } s = s + 1; } catch e { s = s + e; } i = i + 1; } return s;": "12",
		"let f = fn(x) { if x { return 1; } }; return f(nil);":                                                                         "nil",
		"let f = fn(x) { while x { return 1; } }; return f(nil);":                                                                      "nil",
		"let f = fn(x) { try { x(); } catch e { } }; return f(1);":                                                                     "nil",
		"return 1; return 2;": "1",
		"return 1; throw 2;":  "1",
		"throw 1; return 2;":  "throws 1",
	} {
		answers(t, s, want)
	}
}

func TestTheOrderInWhichThingsAreDone(t *testing.T) { // P10.1, chapter 17: the calls of words tell it
	const f = `let f = fn(x) { text(x); return x; }; let r = {}; `
	for s, want := range map[string]string{
		"f(1) + f(2) * f(3);":                                     "1 2 3",
		"(f(1) + f(2)) * f(3);":                                   "1 2 3",
		"f(1) == f(2);":                                           "1 2",
		"f(2) < f(1);":                                            "2 1",
		"{[f(1)]: f(2), [f(3)]: f(4)};":                           "1 2 3 4",
		"{a: f(1), [nil]: f(2), b: f(3)};":                        "1 2",
		"r[f(1)] = f(2);":                                         "1 2",
		"r[nil] = f(2);":                                          "2",
		"f(1)[f(2)] = f(3);":                                      "1 2 3",
		"f(1)[f(2)];":                                             "1 2",
		"f(1)[f(2)][f(3)];":                                       "1 2",
		"f(f(1) + f(2));":                                         "1 2 3",
		"f(1)(f(2), f(3));":                                       "1 2 3",
		"r.g(f(1), f(2));":                                        "1 2",
		"fn(a, b) { f(9); }(f(1), f(2), f(3));":                   "1 2 3 9",
		"let a = f(1); f(2); a = f(3);":                           "1 2 3",
		"if f(1) { f(2); } else { f(3); } f(4);":                  "1 2 4",
		"if !f(1) { f(2); } else { f(3); } f(4);":                 "1 3 4",
		"let i = 0; while f(i) < 2 { f(7); i = i + 1; }":          "0 7 1 7 2",
		"try { f(1); throw f(2); f(3); } catch e { f(4); } f(5);": "1 2 4 5",
		"try { f(1); } catch e { f(2); } f(3);":                   "1 3",
		"return f(1); f(2);":                                      "1",
		"-f(1) - -f(2);":                                          "1 2",
		"f(1) + nil + f(2);":                                      "1",
		"nil + f(1);":                                             "1",
		"nil[f(1)];":                                              "1",
		"nil(f(1), f(2));":                                        "1 2",
	} {
		l, _, e := parse.Parse(f + s)
		if e != api.OK {
			t.Fatalf("%q: error %d", s, e)
		}
		does(t, l, 500)
		w := &world{fuel: 500, deep: 1}
		w.run(made(t, l), 0, nil, nil)
		var got []string
		for _, x := range w.told {
			if n, ok := strings.CutPrefix(x, "call word 5 "); ok {
				got = append(got, n)
			}
		}
		if g := strings.Join(got, " "); g != want {
			t.Errorf("%q: %s, not %s", s, g, want)
		}
	}
}

func TestFuel(t *testing.T) { // P10.1, chapter 17: one for each call of a closure, and each time a While goes back
	for s, want := range map[string]int{
		"":                                      0,
		"let i = 0; while i < 5 { i = i + 1; }": 5,
		"while true { return 1; }":              0,
		"if true { } else { }":                  0,
		"fn() { }();":                           1,
		"len(\"a\");":                           0,
		"try { throw 1; } catch e { }":          0,
		"let i = 0; while i < 3 { i = i + 1; if i == 1 { i = 2; } else { i = i; } }":         2,
		"let i = 0; while i < 2 { let j = 0; while j < 2 { j = j + 1; } i = i + 1; }":        6,
		"let i = 0; while i < 2 { try { i = i + 1; throw 1; } catch e { } }":                 2,
		"let f = fn() { let i = 0; while i < 2 { i = i + 1; } }; f(); f();":                  6,
		"let i = 0; try { while true { i = i + 1; if i == 3 { throw i; } } } catch e { e; }": 2,
	} {
		m := read(t, s)
		w := &world{fuel: want, deep: 1}
		if _, err := w.run(m, 0, nil, nil); err != nil || w.fuel != 0 {
			t.Errorf("%q: %v, and %d of %d left", s, err, w.fuel, want)
		}
		w = &world{fuel: want - 1, deep: 1}
		if _, err := w.run(m, 0, nil, nil); want > 0 && err != errFuel {
			t.Errorf("%q with less than %d: %v", s, want, err)
		}
	}
}

func TestAsManyFunctionsAsMayBe(t *testing.T) { // P10.1, ErrSize: the module's own counts, and those within others
	const most = api.MaxFuncs - 1
	if m := read(t, strings.Repeat("fn() { };", most)); len(m.Funcs) != api.MaxFuncs {
		t.Errorf("%d functions", len(m.Funcs))
	}
	goes(t, strings.Repeat("fn() { };", most)+"~fn() { };", api.ErrSize)
	goes(t, strings.Repeat("fn() { };", most)+"~let a = fn(b, b) { c; }; d;", api.ErrSize)
	goes(t, strings.Repeat("fn() { };", most)+"~a + fn() { };", api.ErrNone)
	goes(t, strings.Repeat("fn() { };", most)+"~a; fn() { };", api.ErrNone)
	goes(t, "~fn(a, a) { }; "+strings.Repeat("fn() { };", most+1), api.ErrTwice)
	nine := "fn() { fn() { fn() { }; fn() { }; }; fn() { fn() { }; fn() { fn() { }; fn() { }; }; }; };"
	read(t, strings.Repeat(nine, most/9))
	goes(t, strings.Repeat(nine, most/9)+"~fn() { };", api.ErrSize)
	goes(t, strings.Repeat(nine, most/9)+" if true { 1; ~{a: fn() { 1; }}; }", api.ErrSize)
	goes(t, "fn() { };"+strings.Repeat(nine, most/9-1)+"fn() { fn() { fn() { }; fn() { }; }; fn() { fn() { }; fn() { fn() { }; ~fn() { }; }; }; };", api.ErrSize)
}

// lots: so many texts made of a number, with something between.
func lots(many int, one, between string) string {
	l := make([]string, many)
	for i := range l {
		l[i] = strings.ReplaceAll(one, "%", fmt.Sprint(i))
	}
	return strings.Join(l, between)
}

func TestAsManyRegistersAsMayBe(t *testing.T) { // P10.1, ErrSize: each that is seen needs one
	const most = api.MaxRegs
	read(t, "fn("+lots(most, "a%", ", ")+") { };")
	goes(t, "1; ~fn("+lots(most+1, "a%", ", ")+") { };", api.ErrSize)
	goes(t, "1; ~fn("+lots(most+1, "a%", ", ")+", a1) { };", api.ErrSize)
	goes(t, "1; ~fn("+lots(most, "a%", ", ")+", a1) { };", api.ErrTwice)
	read(t, lots(most, "let a% = 1; ", ""))
	goes(t, lots(most, "let a% = 1; ", "")+"~let b = 1;", api.ErrSize)
	goes(t, lots(most, "let a% = 1; ", "")+"~b; let b = 1;", api.ErrNone)
	// Held ones take room beside parameters.
	half := lots(most/2, "let a% = 1; ", "")
	uses := lots(most/2, "a%; ", "")
	read(t, half+"fn("+lots(most/2, "b%", ", ")+") { "+uses+"};")
	goes(t, half+"~fn("+lots(most/2+1, "b%", ", ")+") { "+uses+"};", api.ErrSize)
	// Those of a block are free behind it.
	read(t, strings.Repeat("if true { "+lots(most/2, "let a% = 1; ", "")+"} ", 3))
	read(t, "fn() { "+half+"}; fn() { "+half+"}; "+half)
	read(t, strings.Repeat("try { throw 1; } catch a { let b = a; } ", most))
	// What a statement needed on the way is free behind it.
	for _, s := range []string{"{}.a = {}; ", "f[1] = {}; ", "f = 1 + 2; ", "f({}, 1); ", "{a: {}, b: 1}; ", "if f(1) { } else { } ", "while f(1) { } ", "try { f(1); } catch a { } ", "return f(1); ", "throw f(1); ", "fn() { }(1); "} {
		read(t, "let f = 1; "+strings.Repeat(s, most-2))
	}
}

func TestNothingTooGreatIsMade(t *testing.T) { // P10.1, ErrSize: what is made fits, or nothing is
	well, wrong := 0, 0
	for _, s := range []string{
		"%", "1;", "f();", "f(1);", "f(f, 1, 2);", "f.a;", "f.a=1;", "f=1;", "f={a:1};", "-1;", "f=1+2*3;", "if 1{}", "if 1{}else{f;}", "while 1{}", "try{}catch e{}", "f(1+f,!2);",
	} {
		for _, many := range []int{1, 100, 300, 600, 900, 997, 998, 999, 1000, 1001, 1500, 1997, 1998, 1999, 2000, 2001, 4000} {
			body := strings.Repeat(s, many)
			for _, text := range []string{"let f = 1; " + body, "let g = fn(f) { 1; " + body + " };"} {
				if s == "%" || len(text) > api.MaxSource {
					continue
				}
				m, at, e := Read(text)
				switch e {
				case api.OK:
					well++
					if err := unfit(m); err != nil || at != 0 {
						t.Errorf("%d of %q: place %d, %v", many, s, at, err)
					}
				case api.ErrSize:
					wrong++
					if len(m.Funcs) > 0 || many < 300 || at > len(text) {
						t.Errorf("%d of %q: place %d, error %d", many, s, at, e)
					}
				default:
					t.Errorf("%d of %q: place %d, error %d", many, s, at, e)
				}
			}
		}
	}
	if well < 100 || wrong < 10 {
		t.Errorf("%d went well, %d were too great", well, wrong)
	}
}

func TestTheEndOfAFunctionThatIsTooLong(t *testing.T) { // P10.1: place of what stands in no statement, or in that around
	body := strings.Repeat("1;", api.MaxCode-1)
	goes(t, body, api.ErrSize)
	goes(t, "1; if true { ~fn() { "+body+" }; }", api.ErrSize)
	read(t, body[2:])
	read(t, "1; fn() { "+body[2:]+" };")
}

func TestWhatIsWellAtMost(t *testing.T) { // P10.1: 20 names, 20 statements, 8 arguments, 6 deep, 2000 bytes
	names := lots(17, "let n% = %; ", "")
	deep := "f(1, 2, 3, 4, 5, 6, 7, 8)"
	for range 5 {
		deep = "1 == 2 + 3 * f(1, 2, 3, 4, 5, 6, 7, " + deep + ")"
	}
	record := "{a: 1}"
	for range 4 {
		record = "1 == 2 + 3 * {[1 + 1]: " + record + "}.a"
	}
	field := "1"
	for range 5 {
		field = "1 < 2 - 3 * f(1, 2, 3)[" + field + "]"
	}
	for _, s := range []string{deep, record, field, strings.Repeat("1 + ", 300) + "1", strings.Repeat("f(1, ", 5) + "f()" + strings.Repeat(")", 5), "f" + strings.Repeat("(1, 2)", 90), "f" + strings.Repeat(".a", 200)} {
		for _, form := range []string{"f[1 + 2] = %;", "let b = %;", "let b = 1; b = %;", "return %;", "throw %;", "%;", "if % { }", "while % { }", "try { f.a = %; } catch b { try { f; } catch c { let d = %; } }"} {
			form = strings.ReplaceAll(form, "%", s)
			read(t, "let f = 1; "+names+form)
			read(t, "fn(f) { "+names+form+" };")
			read(t, "let f = 1; "+names+"let g = fn() { "+form+" };")
			read(t, "let f = 1; fn() { "+names+form+" };")
		}
	}
	held := lots(19, "let n% = %; ", "") + "fn(a) { return a" + lots(19, " + n%", "") + "; };"
	read(t, held)
	read(t, "let a = 1; "+lots(5, "try { a = 1; } catch b% { ", "")+"a = 2;"+strings.Repeat(" }", 5))
	read(t, "let a = 1; "+strings.Repeat("try { ", 5)+"a = 2;"+strings.Repeat(" } catch b { a = 1; }", 5))
}

func TestWhatIsWellAlways(t *testing.T) { // P10.1: no module within those bounds is too great
	made := 0
	w := writer{next: numbers(103), names: &made}
	for range 5000 {
		l, ok := reread(t, w.block(3, known{}))
		if !ok || len(tree.Print(l)) > 2000 {
			continue
		}
		if m, at, e := Module(l); e != api.OK || at != 0 || unfit(m) != nil {
			t.Fatalf("%s: place %d, error %d", tree.Print(l), at, e)
		}
	}
}

func TestLongChains(t *testing.T) { // P10.1: what stands behind one another isn't in one another
	for s, want := range map[string]string{
		"return 0" + strings.Repeat(" + 1", 900) + ";":                                             "900",
		"return 1" + strings.Repeat(" * 1", 900) + ";":                                             "1",
		"let f = fn(f) { return f; }; let g = f; return f" + strings.Repeat("(f)", 200) + " == f;": "true",
		"let r = {}; r.r = r; return r" + strings.Repeat(".r", 500) + " == r;":                     "true",
	} {
		l, _, e := parse.Parse(s)
		if e != api.OK {
			t.Fatalf("%d bytes: error %d", len(s), e)
		}
		does(t, l, 1000)
		w := &world{fuel: 1000, deep: 1}
		v, err := w.run(made(t, l), 0, nil, nil)
		if err != nil || w.name(v) != want {
			t.Errorf("%.40s: %s, %v, not %s", s, w.name(v), err, want)
		}
	}
}

func TestConstantsAreKept(t *testing.T) { // P10.1: whichever they are, each stays itself
	s := "let l = {}; " + lots(300, "l[%] = %; ", "") + "return l;"
	m, _, e := Read(s)
	if e == api.OK {
		if err := unfit(m); err != nil {
			t.Error(err)
		}
	}
	answers(t, `return {a: 1, b: "1", c: true, d: "true", e: nil, f: "nil", g: "", h: 0, i: false, j: len, k: "len"}.j;`, "word 0")
	for i, want := range []string{"1", `"1"`, "true", `"true"`, "nil", `"nil"`, `""`, "0", "false", "word 0", `"len"`} {
		answers(t, `return {a: 1, b: "1", c: true, d: "true", e: nil, f: "nil", g: "", h: 0, i: false, j: len, k: "len"}[`+fmt.Sprintf("%q", string(rune('a'+i)))+"];", want)
	}
}

func TestReadIsModuleOfParse(t *testing.T) { // P10.1
	made := 0
	w := writer{next: numbers(104), any: true, names: &made}
	for range 2000 {
		l := w.block(3, known{})
		s := tree.Print(l)
		l, at, e := parse.Parse(s)
		got, gotAt, gotE := Read(s)
		var want code.Module
		if e == api.OK {
			want, at, e = Module(l)
		}
		if !reflect.DeepEqual(got, want) || gotAt != at || gotE != e {
			t.Fatalf("%s: %v %d %d, not %v %d %d", s, got, gotAt, gotE, want, at, e)
		}
	}
}

// roomy: the same statements, in lists with room behind, in which a mark stands.
func roomy(l []tree.Stmt) []tree.Stmt {
	mark := tree.Stmt{Name: "mark", At: 99}
	out := make([]tree.Stmt, 0, len(l)+1)
	for _, s := range l {
		s.Exprs, s.Body, s.Else = roomyExprs(s.Exprs), roomy(s.Body), roomy(s.Else)
		out = append(out, s)
	}
	return append(out, mark)[:len(l)]
}

func roomyExprs(l []tree.Expr) []tree.Expr {
	mark := tree.Expr{Op: tree.Text, Text: "mark"}
	out := make([]tree.Expr, 0, len(l)+1)
	for _, e := range l {
		e.Parts, e.Body = roomyExprs(e.Parts), roomy(e.Body)
		e.Params = append(slices.Clone(e.Params), "mark")[:len(e.Params)]
		out = append(out, e)
	}
	return append(out, mark)[:len(l)]
}

// whole: all that a tree has, what lies in the room behind its lists included.
func whole(l []tree.Stmt) string {
	out := ""
	for _, s := range l[:cap(l)] {
		out += fmt.Sprintf("%d %q %d (", s.Kind, s.Name, s.At) + wholeExprs(s.Exprs) + ") {" + whole(s.Body) + "} {" + whole(s.Else) + "} "
	}
	return out
}

func wholeExprs(l []tree.Expr) string {
	out := ""
	for _, e := range l[:cap(l)] {
		out += fmt.Sprintf("%d %d %q %q (", e.Op, e.Num, e.Text, e.Params[:cap(e.Params)]) + wholeExprs(e.Parts) + ") {" + whole(e.Body) + "} "
	}
	return out
}

func TestNothingIsChangedOrShared(t *testing.T) { // R5, R6: asked again it answers the same, in new memory
	made := 0
	w := writer{next: numbers(105), any: true, names: &made}
	for range 2000 {
		l, ok := reread(t, w.block(3, known{}))
		if !ok {
			continue
		}
		l = roomy(l)
		was := whole(l)
		first, at, e := Module(l)
		if now := whole(l); now != was {
			t.Fatalf("%s: %s, not %s", tree.Print(l), now, was)
		}
		second, at2, e2 := Module(l)
		if !reflect.DeepEqual(first, second) || at != at2 || e != e2 {
			t.Fatalf("%s: %v, then %v", tree.Print(l), first, second)
		}
		third, _, _ := Module(l)
		spoil(first)
		if !reflect.DeepEqual(second, third) {
			t.Fatalf("%s: changed with another answer", tree.Print(l))
		}
		if now := whole(l); now != was {
			t.Fatalf("%s: changed with an answer", tree.Print(l))
		}
	}
}

// spoil changes all that a module has, and fills the room behind its lists.
func spoil(m code.Module) {
	for i, f := range m.Funcs {
		for j := range f.Held[:cap(f.Held)] {
			f.Held[:cap(f.Held)][j] = -7
		}
		for j := range f.Consts[:cap(f.Consts)] {
			f.Consts[:cap(f.Consts)][j] = value.Words("spoilt")
		}
		for j := range f.Code[:cap(f.Code)] {
			f.Code[:cap(f.Code)][j] = code.Instr{Op: 77}
		}
		m.Funcs[i] = code.Func{}
	}
}

func TestNoListIsSharedInAnAnswer(t *testing.T) { // R5: of one function's lists none is another's
	m := read(t, "let a = 1; let f = fn() { return a; }; let g = fn() { return a; }; return f() + g();")
	other := read(t, "let a = 1; let f = fn() { return a; }; let g = fn() { return a; }; return f() + g();")
	spoil(code.Module{Funcs: []code.Func{m.Funcs[1]}})
	if !reflect.DeepEqual(m.Funcs[0], other.Funcs[0]) || !reflect.DeepEqual(m.Funcs[2], other.Funcs[2]) {
		t.Errorf("%v, not %v", m, other)
	}
}

func TestEmptyListsMeanNone(t *testing.T) { // R4
	for _, l := range [][]tree.Stmt{nil, {}} {
		m := made(t, l)
		if len(m.Funcs) != 1 {
			t.Errorf("%v", m)
		}
	}
	full := tree.Expr{Op: tree.Fn, Parts: []tree.Expr{}, Params: []string{}, Body: []tree.Stmt{}}
	got := made(t, []tree.Stmt{{Kind: tree.If, Exprs: one(full), Body: []tree.Stmt{}, Else: []tree.Stmt{}}})
	want := made(t, []tree.Stmt{{Kind: tree.If, Exprs: one(tree.Expr{Op: tree.Fn})}})
	if !reflect.DeepEqual(got, want) {
		t.Errorf("%v, not %v", got, want)
	}
}

func TestNoOtherTreePanics(t *testing.T) { // P1: nothing is promised of them but that
	for op := tree.Op(-1); op <= tree.Ops; op++ {
		for parts := range 4 {
			e := tree.Expr{Op: op, Parts: make([]tree.Expr, parts)}
			for kind := tree.Kind(-1); kind <= tree.Kinds; kind++ {
				Module([]tree.Stmt{{Kind: kind, At: -3}, {Kind: kind, Name: "a", Exprs: []tree.Expr{e}}})
				Module([]tree.Stmt{{Kind: kind, Exprs: []tree.Expr{e, e, e, e}, Body: []tree.Stmt{{Kind: kind}}, Else: []tree.Stmt{{Kind: kind}}}})
			}
		}
	}
	e := tree.Expr{Op: tree.Number}
	for range 20000 {
		e = tree.Expr{Op: tree.Minus, Parts: one(e)}
	}
	Module([]tree.Stmt{{Kind: tree.Do, Exprs: one(e)}})
	for range 2000 {
		e = fn([]string{"b"}, tree.Stmt{Kind: tree.Do, Exprs: one(e)})
	}
	Module([]tree.Stmt{{Kind: tree.Do, Exprs: one(e)}})
}

func TestWordsAreThoseOfScope(t *testing.T) { // P10.1: each that is no name is the word of its number
	for i, w := range []string{"len", "freeze", "frozen", "brand", "kind", "text"} {
		if scope.Word(w) != i {
			t.Fatal(w)
		}
		want := fmt.Sprintf("word %d", i)
		answers(t, "return "+w+";", want)
		answers(t, "return fn() { return "+w+"; }();", want)
		answers(t, "let a = 1; return fn() { a; return fn() { a; return "+w+"; }; }()();", want)
		answers(t, "let "+w+" = 7; return fn() { return "+w+"; }();", "7")
		answers(t, "let a = "+w+"; return a;", want)
		answers(t, "let "+w+" = "+w+"; return "+w+";", want)
		goes(t, w+" = 1;", api.ErrNone)
	}
}
