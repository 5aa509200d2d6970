package lex

import (
	"math"
	"math/big"
	"regexp"
	"slices"
	"strings"
	"testing"

	"paling/api"
)

// The chapter's bytes, written out: of words (the first, and others), of signs.
const (
	letters  = "abcdefghijklmnopqrstuvwxyzABCDEFGHIJKLMNOPQRSTUVWXYZ_"
	digits   = "0123456789"
	oneSigns = "(){}[];,:.=<+-*!"
)

// splits: what Split must answer where nothing goes wrong: these tokens, and the end behind them.
func splits(t *testing.T, s string, want ...Token) {
	t.Helper()
	want = append(slices.Clone(want), Token{Kind: End, At: len(s)})
	l, at, e := Split(s)
	if !slices.Equal(l, want) || at != 0 || e != api.OK {
		t.Errorf("%q: %v, %d, error %d; not %v", short(s), l, at, e, want)
	}
}

// fails: where and how Split must go wrong.
func fails(t *testing.T, s string, at int, e api.Errno) {
	t.Helper()
	if l, a, f := Split(s); a != at || f != e || len(l) != 0 {
		t.Errorf("%q: %v, %d, error %d; not %d, error %d", short(s), l, a, f, at, e)
	}
}

// short: what is told of a long text.
func short(s string) string {
	if len(s) > 80 {
		return s[:40] + ".." + s[len(s)-40:]
	}
	return s
}

func word(at int, s string) Token { return Token{Kind: Word, Text: s, At: at} }

func num(at int, s string, n int64) Token { return Token{Kind: Number, Text: s, Num: n, At: at} }

func txt(at int, s string) Token { return Token{Kind: Text, Text: s, At: at} }

func sgn(at int, s string) Token { return Token{Kind: Sign, Text: s, At: at} }

func TestKindsAreNumberedInOrder(t *testing.T) { // chapter 5, Types
	for i, k := range []Kind{End, Word, Number, Text, Sign} {
		if int(k) != i {
			t.Errorf("kind %d has the number %d", i, k)
		}
	}
}

func TestTheChaptersExample(t *testing.T) { // P5.1
	splits(t, "a=1;", word(0, "a"), sgn(1, "="), num(2, "1", 1), sgn(3, ";"))
}

func TestNothingButWhatLiesBetween(t *testing.T) { // P5.1: the end alone, behind all of it
	for _, s := range []string{
		"", " ", "    ", "\n", "\n\n\n", " \n \n", "#", "##", "# ", "#\n", " # a note", "# a note\n", "# a\n# b\n\n  # c",
		"#a=1;", "#\"", "# \"no text\"", "#007", "#?\x00\xff\t\r", "#\n#\n#", "# é 日本\n", "#\\\n",
	} {
		splits(t, s)
	}
}

func TestANoteEndsWithItsLine(t *testing.T) { // P5.1
	splits(t, "a#b\nc", word(0, "a"), word(4, "c"))
	splits(t, "a #b", word(0, "a"))
	splits(t, "#\na", word(2, "a"))
	splits(t, "##\n#a\nb#", word(6, "b"))
	splits(t, "1#\n2", num(0, "1", 1), num(3, "2", 2)) // a note parts as a blank does
	splits(t, "=#\n=", sgn(0, "="), sgn(3, "="))
	splits(t, "# \"\n\"#\"", txt(4, "#")) // in a text # begins no note, and in a note quotes no text
	fails(t, "#?\n?", 3, api.ErrForm)
	for c := range 256 { // a note may have any byte
		s := "#" + string([]byte{byte(c)}) + "\nx"
		splits(t, s, word(len(s)-1, "x"))
	}
	splits(t, "#x\rx\nx", word(5, "x")) // only a line feed ends a line
}

func TestOnlyBlanksAndLineFeedsPart(t *testing.T) { // P5.1
	splits(t, " a  b\n\nc \n d ", word(1, "a"), word(4, "b"), word(7, "c"), word(11, "d"))
	for _, c := range []string{"\t", "\r", "\v", "\f", "\x00", "\u00a0", "\u2028", "\u0085", "\ufeff"} {
		fails(t, c, 0, api.ErrForm)
		fails(t, "a"+c+"b", 1, api.ErrForm)
	}
}

func TestEachByteAlone(t *testing.T) { // P5.1: what a byte begins, if anything
	for c := range 256 {
		s := string([]byte{byte(c)})
		switch {
		case c == ' ' || c == '\n' || c == '#':
			splits(t, s)
		case strings.Contains(letters, s):
			splits(t, s, word(0, s))
		case strings.Contains(digits, s):
			splits(t, s, num(0, s, int64(c-'0')))
		case strings.Contains(oneSigns, s):
			splits(t, s, sgn(0, s))
		default:
			fails(t, s, 0, api.ErrForm)
			fails(t, " \n"+s, 2, api.ErrForm)
			fails(t, "a;"+s+"b", 2, api.ErrForm)
			fails(t, s+" a", 0, api.ErrForm)
		}
	}
}

func TestEachPairOfSigns(t *testing.T) { // P5.1: == and != ahead of shorter ones, all others one by one
	for _, a := range strings.Split(oneSigns, "") {
		for _, b := range strings.Split(oneSigns, "") {
			if b == "=" && (a == "=" || a == "!") {
				splits(t, a+b, sgn(0, a+b))
			} else {
				splits(t, a+b, sgn(0, a), sgn(1, b))
			}
			splits(t, a+" "+b, sgn(0, a), sgn(2, b))
			splits(t, a+"\n"+b, sgn(0, a), sgn(2, b))
		}
	}
}

func TestRowsOfSigns(t *testing.T) { // P5.1: from the left
	splits(t, "===", sgn(0, "=="), sgn(2, "="))
	splits(t, "====", sgn(0, "=="), sgn(2, "=="))
	splits(t, "= ==", sgn(0, "="), sgn(2, "=="))
	splits(t, "!==", sgn(0, "!="), sgn(2, "="))
	splits(t, "!!=", sgn(0, "!"), sgn(1, "!="))
	splits(t, "=!=", sgn(0, "="), sgn(1, "!="))
	splits(t, "==!=", sgn(0, "=="), sgn(2, "!="))
	splits(t, "<=", sgn(0, "<"), sgn(1, "="))
	splits(t, "+=-=*=", sgn(0, "+"), sgn(1, "="), sgn(2, "-"), sgn(3, "="), sgn(4, "*"), sgn(5, "="))
	splits(t, "({[]})", sgn(0, "("), sgn(1, "{"), sgn(2, "["), sgn(3, "]"), sgn(4, "}"), sgn(5, ")"))
	for _, s := range []string{">", ">=", "/", "&", "&&", "|", "%", "^", "~", "@", "$", "?", "'", "`", "\\"} {
		fails(t, s, 0, api.ErrForm)
	}
	fails(t, "=>", 1, api.ErrForm)
	fails(t, "==>", 2, api.ErrForm)
}

func TestWords(t *testing.T) { // P5.1: as many bytes as come
	for _, s := range []string{"a", "z", "A", "Z", "_", "__", "a1", "_1", "a_b", "x9y8", "aZ_09", "let", "nil", "fn", letters + digits, strings.Repeat("w", 500)} {
		splits(t, s, word(0, s))
		splits(t, " "+s+" ", word(1, s))
		splits(t, s+"=", word(0, s), sgn(len(s), "="))
		splits(t, "."+s, sgn(0, "."), word(1, s))
		splits(t, s+"\""+s+"\"", word(0, s), txt(len(s), s))
		splits(t, s+"#"+s, word(0, s))
	}
	for c := range 256 { // what ends a word
		s := "a" + string([]byte{byte(c)})
		l, _, _ := Split(s)
		if strings.Contains(letters+digits, s[1:]) != (len(l) > 0 && l[0].Text == s) {
			t.Errorf("%q: %v", s, l)
		}
	}
	fails(t, "é", 0, api.ErrForm) // letters of other writings are none
	fails(t, "aé", 1, api.ErrForm)
	fails(t, "ſ", 0, api.ErrForm)
}

func TestADigitAheadOfLetters(t *testing.T) { // P5.1: a word has no digit first
	splits(t, "1a", num(0, "1", 1), word(1, "a"))
	splits(t, "0a", num(0, "0", 0), word(1, "a"))
	splits(t, "0x1F", num(0, "0", 0), word(1, "x1F"))
	splits(t, "12_000", num(0, "12", 12), word(2, "_000"))
	splits(t, "1e9", num(0, "1", 1), word(1, "e9"))
	splits(t, "1.5", num(0, "1", 1), sgn(1, "."), num(2, "5", 5))
	splits(t, "a 1 b", word(0, "a"), num(2, "1", 1), word(4, "b"))
}

func TestNumbers(t *testing.T) { // P5.1
	for s, n := range map[string]int64{
		"0": 0, "1": 1, "9": 9, "10": 10, "90": 90, "100": 100, "4294967296": math.MaxUint32 + 1, "2147483648": math.MaxInt32 + 1,
		"999999999999999999": 999999999999999999, "1000000000000000000": 1000000000000000000,
		"9223372036854775799": 9223372036854775799, "9223372036854775806": math.MaxInt64 - 1, "9223372036854775807": math.MaxInt64,
	} {
		splits(t, s, num(0, s, n))
		splits(t, " "+s+";", num(1, s, n), sgn(len(s)+1, ";"))
		splits(t, "-"+s, sgn(0, "-"), num(1, s, n)) // a number has no sign
		splits(t, "+"+s, sgn(0, "+"), num(1, s, n))
	}
	splits(t, "0 0", num(0, "0", 0), num(2, "0", 0))
	splits(t, "0;0", num(0, "0", 0), sgn(1, ";"), num(2, "0", 0))
}

func TestNumbersOutOfRange(t *testing.T) { // P5.1
	for _, s := range []string{
		"9223372036854775808", "9223372036854775810", "9223372036854776000", "9300000000000000000", "9999999999999999999", "10000000000000000000",
		"18446744073709551615", "18446744073709551616", "18446744073709551617", "36893488147419103233", "340282366920938463463374607431768211457",
		"1" + strings.Repeat("0", 100), strings.Repeat("9", 8000), "1" + strings.Repeat("0", api.MaxSource-3),
		"00", "01", "007", "0000000000000000000000", "09223372036854775807", "09223372036854775808", "0" + strings.Repeat("1", 300),
	} {
		fails(t, s, 0, api.ErrRange)
		fails(t, " "+s, 1, api.ErrRange)
		fails(t, "-"+s, 1, api.ErrRange) // the least number's digits don't go by themselves
	}
	fails(t, "00a", 0, api.ErrRange)
	fails(t, "a 01 b", 2, api.ErrRange)
	fails(t, "0 1 02", 4, api.ErrRange)
	splits(t, "a00", word(0, "a00"))
	splits(t, "\"00\"", txt(0, "00"))
}

func TestTexts(t *testing.T) { // P5.1
	for s, means := range map[string]string{
		`""`: "", `"a"`: "a", `" "`: " ", `"  a  b "`: "  a  b ", `"#"`: "#", `"# no note"`: "# no note", `"'"`: "'", `"007"`: "007", `"~"`: "~",
		`"\""`: "\"", `"\\"`: "\\", `"\n"`: "\n", `"\"\\\n"`: "\"\\\n", `"\n\\\""`: "\n\\\"", `"\\n"`: "\\n", `"\\\n"`: "\\\n", `"\\\\"`: "\\\\",
		`"\"a\""`: "\"a\"", `"nn\nn"`: "nn\nn", `"a=1; # {}"`: "a=1; # {}", `"\\\""`: "\\\"",
	} {
		splits(t, s, txt(0, means))
		splits(t, "  "+s, txt(2, means))
		splits(t, s+s, txt(0, means), txt(len(s), means))
		splits(t, s+";", txt(0, means), sgn(len(s), ";"))
		splits(t, s+"#"+s, txt(0, means))
		splits(t, "a"+s+"1", word(0, "a"), txt(1, means), num(len(s)+1, "1", 1))
	}
	long := strings.Repeat("x", 5000) // how long a text may be is not for Split to say
	splits(t, `"`+long+`"`, txt(0, long))
}

func TestEachByteInAText(t *testing.T) { // P5.1: bytes from 32 to 126
	for c := range 256 {
		b := string([]byte{byte(c)})
		for _, s := range []string{`"` + b + `"`, `"xy` + b + `"`, `"\\` + b + `z"`} {
			switch {
			case b == `"`: // the text is at its end, and another one begins behind it
				fails(t, s, strings.LastIndex(s, `"`), api.ErrForm)
			case b == `\` && strings.HasSuffix(s, `\"`): // quotes are meant, and there is no end
				fails(t, s, 0, api.ErrForm)
			case b == `\` || c < 32 || c > 126:
				fails(t, s, 0, api.ErrForm)
				fails(t, "a; "+s+" ?", 3, api.ErrForm)
			case strings.HasPrefix(s, `"\\`):
				splits(t, s, txt(0, `\`+b+"z"))
			default:
				splits(t, s, txt(0, s[1:len(s)-1]))
			}
		}
	}
}

func TestEachByteBehindABackslash(t *testing.T) { // P5.1: three mean something
	means := map[byte]string{'"': "\"", '\\': "\\", 'n': "\n"}
	for c := range 256 {
		b := string([]byte{byte(c)})
		for _, ends := range [][2]string{{"", ""}, {"x", "y"}, {`\n`, `\\`}} {
			s := `"` + ends[0] + `\` + b + ends[1] + `"`
			m, ok := means[byte(c)]
			if !ok {
				fails(t, s, 0, api.ErrForm)
				fails(t, "f("+s, 2, api.ErrForm)
				continue
			}
			plain := strings.NewReplacer(`\n`, "\n", `\\`, `\`)
			splits(t, s, txt(0, plain.Replace(ends[0])+m+plain.Replace(ends[1])))
		}
	}
}

func TestTextsWithoutAnEnd(t *testing.T) { // P5.1
	for _, s := range []string{`"`, `"a`, `"a;`, `" `, `"\`, `"a\`, `"\"`, `"\\`, `"\\\`, `"\\\"`, `"\n`, `"a# b`, "\"a\n\"", "\"\n", "\"#\n\"", "\"a\\\n\"", "\"a\x00\"", "\"a\t\"", "\"é\"", "\"\x7f\"", "\"\x80\""} {
		fails(t, s, 0, api.ErrForm)
		fails(t, " "+s, 1, api.ErrForm)
		fails(t, `"b"`+s, 3, api.ErrForm)
	}
	fails(t, `"""`, 2, api.ErrForm)
	fails(t, `"a" b"`, 5, api.ErrForm)
}

func TestTheFirstThatGoesWrongIsTold(t *testing.T) { // P5.1
	fails(t, "a ? 007", 2, api.ErrForm)
	fails(t, "a 007 ?", 2, api.ErrRange)
	fails(t, "007 \"", 0, api.ErrRange)
	fails(t, "\"\\t\" 007", 0, api.ErrForm)
	fails(t, "\"a 007", 0, api.ErrForm)
	fails(t, "1 22 333 9223372036854775808 \"", 9, api.ErrRange)
	fails(t, "# ?\n\n  let x = @;", 15, api.ErrForm)
	fails(t, "00?", 0, api.ErrRange)
	fails(t, "a?b", 1, api.ErrForm)
}

func TestAModule(t *testing.T) { // P5.1: where each begins
	splits(t, "let f = fn(x) { # one more\n  return x.a[\"k\\n\"] + 10;\n};\nf({b: -1 != 2});\n",
		word(0, "let"), word(4, "f"), sgn(6, "="), word(8, "fn"), sgn(10, "("), word(11, "x"), sgn(12, ")"), sgn(14, "{"),
		word(29, "return"), word(36, "x"), sgn(37, "."), word(38, "a"), sgn(39, "["), txt(40, "k\n"), sgn(45, "]"), sgn(47, "+"), num(49, "10", 10), sgn(51, ";"),
		sgn(53, "}"), sgn(54, ";"),
		word(56, "f"), sgn(57, "("), sgn(58, "{"), word(59, "b"), sgn(60, ":"), sgn(62, "-"), num(63, "1", 1), sgn(65, "!="), num(68, "2", 2), sgn(69, "}"), sgn(70, ")"), sgn(71, ";"))
}

func TestTheEndStandsBehindAll(t *testing.T) { // P5.1
	for _, s := range []string{"", "a", "a ", "a\n", "a#", "a # note", "a # note\n", "\"\"", "1", "==", "   "} {
		l, _, _ := Split(s)
		if len(l) == 0 || l[len(l)-1] != (Token{Kind: End, At: len(s)}) {
			t.Errorf("%q: %v", s, l)
		}
	}
}

func TestHowLongASourceMayBe(t *testing.T) { // P5.1
	const most = api.MaxSource
	splits(t, strings.Repeat(" ", most))
	splits(t, strings.Repeat("#", most))
	splits(t, strings.Repeat("w", most), word(0, strings.Repeat("w", most)))
	splits(t, `"`+strings.Repeat("w", most-2)+`"`, txt(0, strings.Repeat("w", most-2)))
	splits(t, strings.Repeat(" ", most-1)+"7", num(most-1, "7", 7))
	if l, at, e := Split(strings.Repeat(";", most)); len(l) != most+1 || at != 0 || e != api.OK || l[most-1] != sgn(most-1, ";") {
		t.Errorf("%d tokens, %d, error %d", len(l), at, e)
	}
	fails(t, strings.Repeat(" ", most-1)+"?", most-1, api.ErrForm)
	fails(t, strings.Repeat("9", most), 0, api.ErrRange)
	for _, s := range []string{" ", "#", "w", ";", "9", "0", "?", "\"", "\xff"} { // ahead of all other errors
		fails(t, strings.Repeat(s, most+1), 0, api.ErrSize)
		fails(t, strings.Repeat(s, 3*most), 0, api.ErrSize)
	}
	fails(t, strings.Repeat(" ", most)+"?", 0, api.ErrSize)
	fails(t, "?"+strings.Repeat(" ", most), 0, api.ErrSize)
	splits(t, "# "+strings.Repeat("é", (most-2)/2)) // bytes count, not signs of a writing
	fails(t, "# "+strings.Repeat("é", most/2), 0, api.ErrSize)
}

func TestAnAnswerIsNewMemory(t *testing.T) { // R5, R6
	const s = "let a = \"x\\n\"; # n\n 12 == a"
	l, _, _ := Split(s)
	kept := slices.Clone(l)
	clear(l[:cap(l)])
	splits(t, s, kept[:len(kept)-1]...)
}

// The chapter's words as patterns: what lies between tokens; a token, a group a kind.
var (
	gap     = regexp.MustCompile(`^(?: |\n|#[^\n]*)+`)
	pattern = regexp.MustCompile(`^(?:([a-zA-Z_][a-zA-Z_0-9]*)|([0-9]+)|("(?:[ !#-\[\]-~]|\\["\\n])*")|(==|!=|[(){}\[\];,:.=<+\-*!]))`)
)

// plainSplit: the tokens, found by those patterns.
func plainSplit(s string) ([]Token, int, api.Errno) {
	means := strings.NewReplacer(`\"`, `"`, `\\`, `\`, `\n`, "\n")
	var l []Token
	for at := len(gap.FindString(s)); at < len(s); at += len(gap.FindString(s[at:])) {
		m := pattern.FindStringSubmatch(s[at:])
		if m == nil {
			return nil, at, api.ErrForm
		}
		tok := Token{Text: m[0], At: at}
		tok.Kind = Kind(slices.IndexFunc(m[1:], func(g string) bool { return g != "" }) + 1)
		switch tok.Kind {
		case Number:
			n, _ := new(big.Int).SetString(m[0], 10)
			if !n.IsInt64() || n.String() != m[0] {
				return nil, at, api.ErrRange
			}
			tok.Num = n.Int64()
		case Text:
			tok.Text = means.Replace(m[0][1 : len(m[0])-1])
		}
		l = append(l, tok)
		at += len(m[0])
	}
	return append(l, Token{Kind: End, At: len(s)}), 0, api.OK
}

// held: Split against plainSplit.
func held(t *testing.T, s string) {
	t.Helper()
	l, at, e := Split(s)
	want, wantAt, wantE := plainSplit(s)
	if !slices.Equal(l, want) || at != wantAt || e != wantE {
		t.Fatalf("%q: %v, %d, error %d; not %v, %d, error %d", s, l, at, e, want, wantAt, wantE)
	}
}

func TestAllShortSourcesAgainstPlainOnes(t *testing.T) { // P5.1, P1
	const bytes = "a0n=!\"\\#\n ;\t\x7f"
	var grow func(s string, more int)
	grow = func(s string, more int) {
		held(t, s)
		for i := 0; more > 0 && i < len(bytes); i++ {
			grow(s+bytes[i:i+1], more-1)
		}
	}
	grow("", 4)
}

// numbers: a row of numbers, the same at every run.
func numbers(seed uint32) func(n int) int {
	return func(n int) int {
		seed = seed*1664525 + 1013904223
		return int(seed>>8) % n
	}
}

func TestManySourcesAgainstPlainOnes(t *testing.T) { // P5.1, P1
	next := numbers(5)
	parts := []string{"a", "let", "_9", "0", "7", "10", "00", "922337203685477580", "9223372036854775807", "\"", "\"\"", "\"ok\"", "\\", "\\n", "\\\"", "\\\\",
		" ", "  ", "\n", "#", "# n\n", "=", "==", "!", "!=", "(", ")", "{", "}", "[", "]", ";", ",", ":", ".", "<", "+", "-", "*", "?", "\t", "\x7f", "\x00", "é"}
	good := 0
	for range 20000 {
		var b strings.Builder
		for range next(14) {
			b.WriteString(parts[next(len(parts)-next(2)*5)])
		}
		held(t, b.String())
		if _, _, e := Split(b.String()); e == api.OK {
			good++
		}
	}
	if good < 2000 || good > 18000 {
		t.Errorf("%d of 20000 sources go through: too few of one sort", good)
	}
}
