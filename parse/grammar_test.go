package parse

import (
	"fmt"
	"regexp"
	"strings"
	"testing"

	"paling/api"
	"paling/lex"
)

// grammar is the chapter's, as it stands there.
const grammar = `
module = {stmt}
block  = "{" {stmt} "}"
stmt   = "let" name "=" expr ";" | "return" expr ";" | "throw" expr ";"
       | "if" expr block ["else" block] | "while" expr block | "try" block "catch" name block
       | expr ["=" expr] ";"
expr   = sum [("==" | "!=" | "<") sum]
sum    = prod {("+" | "-") prod}
prod   = unary {"*" unary}
unary  = ("-" | "!") unary | thing {"(" [expr {"," expr}] ")" | "[" expr "]" | "." name}
thing  = number | text | "nil" | "true" | "false" | name | "(" expr ")" | "fn" "(" [name {"," name}] ")" block
       | "{" [field {"," field}] "}"
field  = (name | "[" expr "]") ":" expr
`

// node is a piece of a rule: what: "|" of ways, "," of one behind the other, "[" of perhaps, "{" of as many as come, "=" of a token, "" of a rule's name.
type node struct {
	what string
	text string
	subs []*node
}

// rules: the grammar, read.
func rules() map[string]*node {
	all := map[string]*node{}
	words := regexp.MustCompile(`"[^"]*"|\w+|[=|\[\]{}()]`).FindAllString(grammar, -1)
	for len(words) > 0 {
		end := 2
		for end < len(words) && (end+1 >= len(words) || words[end+1] != "=") {
			end++
		}
		r := ruleReader{words[2:end]}
		all[words[0]] = r.ways()
		words = words[end:]
	}
	return all
}

type ruleReader struct{ words []string }

func (r *ruleReader) ways() *node {
	n := &node{what: "|"}
	for {
		n.subs = append(n.subs, r.row())
		if len(r.words) == 0 || r.words[0] != "|" {
			return n
		}
		r.words = r.words[1:]
	}
}

func (r *ruleReader) row() *node {
	n := &node{what: ","}
	for len(r.words) > 0 && !strings.Contains("|])}", r.words[0]) {
		w := r.words[0]
		r.words = r.words[1:]
		switch w {
		case "[", "{", "(":
			n.subs = append(n.subs, &node{what: strings.Replace(w, "(", "|", 1), subs: []*node{r.ways()}})
			r.words = r.words[1:]
		default:
			what := ""
			if w[0] == '"' {
				what = "="
			}
			n.subs = append(n.subs, &node{what: what, text: strings.Trim(w, `"`)})
		}
	}
	return n
}

// reader goes over tokens by the grammar alone, and makes no tree.
type reader struct {
	rules map[string]*node
	l     []lex.Token
	i     int
	deep  int
}

type stopped struct {
	at int
	e  api.Errno
}

func (r *reader) wrong(at int, e api.Errno) { panic(stopped{at, e}) }

// fits: may what n tells begin with the token that is next?
func (r *reader) fits(n *node) bool {
	t := r.l[r.i]
	switch n.what {
	case "|":
		for _, s := range n.subs {
			if r.fits(s) {
				return true
			}
		}
		return false
	case ",", "[", "{":
		return r.fits(n.subs[0])
	case "=":
		return (t.Kind == lex.Word || t.Kind == lex.Sign) && t.Text == n.text
	}
	switch n.text {
	case "name":
		return t.Kind == lex.Word && !strings.Contains(" let if else while return throw try catch fn nil true false ", " "+t.Text+" ")
	case "number":
		return t.Kind == lex.Number
	case "text":
		return t.Kind == lex.Text
	}
	return r.fits(r.rules[n.text])
}

// begins: may that rule be what n begins with? (Of statements and expressions: what begins there may be too deep, whatever the token.)
func (r *reader) begins(n *node) bool {
	if n.what == "|" || n.what == "," {
		return r.begins(n.subs[0])
	}
	return n.what == "" && (n.text == "expr" || n.text == "stmt")
}

// open: is that (which may be left out) there? Behind it stands next, or, if that is nil, the end.
func (r *reader) open(n, next *node) bool {
	if r.fits(n.subs[0]) {
		return true
	}
	if next == nil {
		return r.begins(n.subs[0]) && r.l[r.i].Kind != lex.End
	}
	return r.begins(n.subs[0]) && !r.fits(next)
}

func (r *reader) down() {
	if r.deep == 20 {
		r.wrong(r.l[r.i].At, api.ErrDeep)
	}
	r.deep++
}

// read: what n tells; next is what stands behind it in its row.
func (r *reader) read(n, next *node) {
	switch n.what {
	case "|":
		for _, s := range n.subs {
			if r.fits(s) {
				r.read(s, next)
				return
			}
		}
		// The last way is the one of which the others are no case.
		r.read(n.subs[len(n.subs)-1], next)
	case ",":
		for i, s := range n.subs {
			var behind *node
			if i+1 < len(n.subs) {
				behind = n.subs[i+1]
			}
			r.read(s, behind)
		}
	case "[":
		if r.open(n, next) {
			r.read(n.subs[0], nil)
		}
	case "{":
		for r.open(n, next) {
			r.read(n.subs[0], nil)
		}
	case "=":
		r.token(n)
	default:
		r.rule(n)
	}
}

func (r *reader) token(n *node) {
	if !r.fits(n) {
		r.wrong(r.l[r.i].At, api.ErrForm)
	}
	r.i++
}

func (r *reader) rule(n *node) {
	at, deep := r.i, r.deep
	switch n.text {
	case "name", "number", "text":
		r.token(n)
		return
	case "expr":
		r.down()
	case "block":
		r.token(&node{what: "=", text: "{"})
		r.down()
		r.read(&node{what: ",", subs: r.rules["block"].subs[0].subs[1:]}, nil)
		r.deep = deep
		return
	case "unary":
		if r.fits(r.rules["unary"].subs[0]) {
			r.i++
			r.down()
			r.rule(n)
			r.deep = deep
			return
		}
	case "stmt":
		last := r.rules["stmt"].subs[len(r.rules["stmt"].subs)-1]
		if !r.fitsOther("stmt") {
			r.read(last.subs[0], nil)
			if r.fits(&node{what: "=", text: "="}) && !settable(r.l[at:r.i]) {
				r.wrong(r.l[at].At, api.ErrKind)
			}
			r.read(last.subs[1], last.subs[2])
			r.read(last.subs[2], nil)
			return
		}
	}
	r.read(r.rules[n.text], nil)
	r.deep = deep
}

// fitsOther: is the token that is next one with which a way of that rule but the last begins?
func (r *reader) fitsOther(rule string) bool {
	ways := r.rules[rule].subs
	return r.fits(&node{what: "|", subs: ways[:len(ways)-1]})
}

// settable: do these tokens, which are an expression, tell a name or a field?
func settable(l []lex.Token) bool {
	for len(l) > 2 && closing(l, 0) == len(l)-1 && l[0].Text == "(" {
		l = l[1 : len(l)-1]
	}
	if len(l) == 1 {
		return l[0].Kind == lex.Word && !strings.Contains(" nil true false ", " "+l[0].Text+" ")
	}
	for i := 0; i < len(l); i = closing(l, i) + 1 {
		if l[i].Kind == lex.Sign && strings.Contains(" + - * ! == != < ", " "+l[i].Text+" ") {
			return false
		}
	}
	z, y := l[len(l)-1], l[len(l)-2]
	return z.Kind == lex.Sign && z.Text == "]" || z.Kind == lex.Word && y.Kind == lex.Sign && y.Text == "."
}

// closing: where the bracket that is i's stands; i, if that is none.
func closing(l []lex.Token, i int) int {
	n := 0
	for j := i; j < len(l); j++ {
		if l[j].Kind == lex.Sign && strings.Contains("([{", l[j].Text) {
			n++
		}
		if l[j].Kind == lex.Sign && strings.Contains(")]}", l[j].Text) {
			n--
		}
		if n == 0 {
			return j
		}
	}
	return i
}

// plain: where a text goes wrong, and why, by the grammar.
func plain(rules map[string]*node, s string) (at int, e api.Errno) {
	l, at, e := lex.Split(s)
	if e != api.OK {
		return at, e
	}
	defer func() {
		if f, ok := recover().(stopped); ok {
			at, e = f.at, f.e
		}
	}()
	r := &reader{rules: rules, l: l}
	r.read(rules["module"], nil)
	return 0, api.OK
}

// held: what Parse answers of s is what the grammar tells.
func held(t *testing.T, rules map[string]*node, s string) api.Errno {
	t.Helper()
	out, at, e := Parse(s)
	wantAt, wantE := plain(rules, s)
	if at != wantAt || e != wantE {
		t.Fatalf("%q: place %d, error %d, not %d, %d", s, at, e, wantAt, wantE)
	}
	if e != api.OK && len(out) != 0 {
		t.Fatalf("%q: statements beside error %d", s, e)
	}
	return e
}

func TestTheGrammarIsReadWhole(t *testing.T) { // of the oracle itself
	r := rules()
	for name, ways := range map[string]int{"module": 1, "block": 1, "stmt": 7, "expr": 1, "sum": 1, "prod": 1, "unary": 2, "thing": 9, "field": 1} {
		if r[name] == nil || len(r[name].subs) != ways {
			t.Errorf("%s: %v", name, r[name])
		}
	}
	if len(r) != 9 {
		t.Errorf("%d rules", len(r))
	}
	for s, want := range map[string]stopped{
		"a.b = 1; (a) = f(1, 2)[3];":           {0, api.OK},
		"(((a)[1])) = {a: 1, [2]: fn(a) { }};": {0, api.OK},
		"a; 1 = 2;":                            {3, api.ErrKind},
		"a; -a = ?":                            {8, api.ErrForm},
		"a; -a = ;":                            {3, api.ErrKind},
		"if a { b; } else if":                  {17, api.ErrForm},
	} {
		if at, e := plain(r, s); at != want.at || e != want.e {
			t.Errorf("%q: %d, %d", s, at, e)
		}
	}
}

// every: all rows of at most n of the words.
func every(words []string, n int, do func(s string)) {
	var more func(s string, n int)
	more = func(s string, n int) {
		do(s)
		for i := 0; n > 0 && i < len(words); i++ {
			more(s+words[i]+" ", n-1)
		}
	}
	more("", n)
}

func TestAllShortModules(t *testing.T) { // P7.1: held against the grammar, read and followed as it stands
	r := rules()
	found := map[api.Errno]int{}
	do := func(s string) { found[held(t, r, s)]++ }
	every(strings.Fields(`a 1 "t" "let" let if else while return throw try catch fn nil true false ( ) { } [ ] ; , : . = < + - * ! == !=`), 3, do)
	every(strings.Fields(`a ( ) ; , = . -`), 5, do)
	every(strings.Fields(`a { } [ ] : , ;`), 5, do)
	every(strings.Fields(`a fn ( ) , { } ;`), 5, do)
	every(strings.Fields(`if else { } a ;`), 6, do)
	every(strings.Fields(`try catch { } a ;`), 6, do)
	every(strings.Fields(`a < == + * ! ;`), 5, do)
	for _, e := range []api.Errno{api.OK, api.ErrForm, api.ErrKind} {
		if found[e] < 100 {
			t.Errorf("only %d of error %d", found[e], e)
		}
	}
}

func TestShortEndsOfDeepModules(t *testing.T) { // P7.1: ErrDeep at the token, whatever it is, and no sooner
	r := rules()
	found := map[api.Errno]int{}
	words := strings.Fields(`a 1 let if else while return try catch fn nil ( ) { } [ ] ; , : . = < + - !`)
	for _, head := range []string{
		strings.Repeat("if a { ", 18), strings.Repeat("if a { ", 19), strings.Repeat("if a { ", 20),
		strings.Repeat("try { } catch e { ", 20), strings.Repeat("while a { ", 20),
		strings.Repeat("(", 18), strings.Repeat("(", 19), strings.Repeat("f(", 19), strings.Repeat("- ", 19), "a = " + strings.Repeat("!", 18),
		strings.Repeat("{a: ", 19), strings.Repeat("{[", 19), strings.Repeat("a[", 19),
		strings.Repeat("fn() { ", 10), strings.Repeat("return fn() { ", 10), strings.Repeat("if a { ", 19) + "a = ",
	} {
		every(words, 2, func(s string) { found[held(t, r, head+s)]++ })
	}
	for _, e := range []api.Errno{api.ErrDeep, api.ErrForm, api.ErrKind} {
		if found[e] < 5 {
			t.Errorf("only %d of error %d", found[e], e)
		}
	}
}

func TestManyModulesWithMistakes(t *testing.T) { // P7.1: a token too many, too few, another, or two that change places
	r := rules()
	w := writer{maker: maker{numbers(71)}}
	words := strings.Fields(`a 1 "t" let if else while return throw try catch fn nil ( ) { } [ ] ; , : . = < + - * ! == ?`)
	found := map[api.Errno]int{}
	for range 6000 {
		l := w.stmts(1 + w.next(3))
		text, _ := w.written(l)
		found[held(t, r, text)]++
		tokens, _, e := lex.Split(text)
		if e != api.OK {
			t.Fatalf("%q: error %d", text, e)
		}
		for range 5 {
			var pieces []string
			for i, token := range tokens[:len(tokens)-1] {
				pieces = append(pieces, text[token.At:tokens[i+1].At])
			}
			for range 1 + w.next(2) {
				pieces = mistaken(pieces, w.next, words)
			}
			found[held(t, r, strings.Join(pieces, " "))]++
		}
	}
	if found[api.OK] < 1000 || found[api.ErrForm] < 1000 || found[api.ErrKind] < 100 {
		t.Errorf("%v", fmt.Sprint(found))
	}
}

// mistaken: the pieces with one mistake.
func mistaken(l []string, next func(n int) int, words []string) []string {
	i := next(len(l) + 1)
	word := words[next(len(words))]
	var out []string
	switch k := next(4); {
	case i == len(l) || k == 0:
		return append(append(append(out, l[:i]...), word), l[i:]...)
	case k == 1:
		return append(append(out, l[:i]...), l[i+1:]...)
	case k == 2:
		return append(append(append(out, l[:i]...), word), l[i+1:]...)
	}
	out = append(out, l...)
	j := next(len(l))
	out[i], out[j] = out[j], out[i]
	return out
}
