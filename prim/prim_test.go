package prim

import (
	"math"
	"math/big"
	"math/rand"
	"strings"
	"sync"
	"testing"

	"paling/api"
	"paling/code"
	"paling/ref"
	"paling/value"
)

// answer is what a call answers.
type answer struct {
	v value.Value
	e api.Errno
}

// The answers that are told in short.
var (
	yes  = answer{v: value.Truth(true)}
	no   = answer{v: value.Truth(false)}
	kind = answer{e: api.ErrKind}
	long = answer{e: api.ErrLong}
	none = answer{e: api.ErrCode}
)

func number64(n int64) answer { return answer{v: value.Number(n)} }
func words(s string) answer   { return answer{v: value.Words(s)} }

func two(op code.Op, a, b value.Value) answer {
	v, e := Two(op, a, b)
	return answer{v, e}
}

func one(op code.Op, a value.Value) answer {
	v, e := One(op, a)
	return answer{v, e}
}

func text(a value.Value) answer {
	v, e := Text(a)
	return answer{v, e}
}

func asksTwo(t *testing.T, op code.Op, a, b value.Value, want answer) {
	t.Helper()
	if got := two(op, a, b); got != want {
		t.Errorf("op %d of %#v, %#v: %#v, not %#v", op, a, b, got, want)
	}
}

func asksOne(t *testing.T, op code.Op, a value.Value, want answer) {
	t.Helper()
	if got := one(op, a); got != want {
		t.Errorf("op %d of %#v: %#v, not %#v", op, a, got, want)
	}
}

func asksText(t *testing.T, a value.Value, want answer) {
	t.Helper()
	if got := text(a); got != want {
		t.Errorf("text of %#v: %#v, not %#v", a, got, want)
	}
}

// edges are numbers at which 64 bits, and the widths below, end.
var edges = []int64{
	0, 1, -1, 2, -2, 3, 5, -7, 9, 10, -10, 99, 100, 255, 256,
	math.MaxInt32, math.MaxInt32 + 1, math.MinInt32, math.MinInt32 - 1, math.MaxUint32, math.MaxUint32 + 1, -math.MaxUint32,
	3037000499, 3037000500, -3037000500, // about the root of the greatest
	1 << 53, 1<<53 + 1, -(1<<53 + 1), // beyond which a float doesn't tell all numbers apart
	1 << 62, -(1 << 62), 1<<62 + 1,
	math.MaxInt64 - 1, math.MaxInt64, math.MinInt64 + 1, math.MinInt64,
}

// texts are some that differ early, late, in length, in bytes that are no letters.
var texts = []string{
	"", "a", "b", "ab", "aa", "aB", "A", "Z", "abc", "abd", " ", "  ", "0", "9", "10", "-1", "nil", "true",
	"\x00", "\x00\x00", "a\x00", "\n", "\x7f", "\x80", "\xff", "\xff\xff", "a\xff",
	"é", "z", "日本", "\ufffd", "\U0010ffff", "\uffff",
	strings.Repeat("a", 99), strings.Repeat("a", 100), strings.Repeat("a", 101),
	strings.Repeat("b", 199), strings.Repeat("b", 200), strings.Repeat("b", 201), strings.Repeat("c", 8190),
}

// others are values that are neither numbers nor texts, some of kinds that aren't there.
func others() []value.Value {
	return []value.Value{
		{},
		value.Truth(false), value.Truth(true),
		value.Word(0), value.Word(1), value.Word(5), value.Word(-1),
		value.Object(ref.None), value.Object(1), value.Object(ref.Of(1, 2)), value.Object(math.MaxUint64),
		{Kind: value.Kinds}, {Kind: value.Kinds, N: 1, S: "a"}, {Kind: math.MaxUint8, N: 1},
	}
}

// some: others, numbers, texts.
func some() []value.Value {
	l := others()
	for _, n := range edges {
		l = append(l, value.Number(n))
	}
	for _, s := range texts {
		l = append(l, value.Words(s))
	}
	return l
}

// numeric: is a value a number?
func numeric(v value.Value) bool { return v.Kind == value.Int }

// textual: is it a text?
func textual(v value.Value) bool { return v.Kind == value.Text }

// round: a number of any size, at 64 bits with a sign.
func round(n *big.Int) int64 {
	turn := new(big.Int).Lsh(big.NewInt(1), 64)
	n = new(big.Int).Mod(n, turn)
	if n.Bit(63) == 1 {
		n.Sub(n, turn)
	}
	return n.Int64()
}

// reckoned: what chapter 12 tells of a sign between numbers, without an end to them.
func reckoned(op code.Op, a, b int64) answer {
	x, y, n := big.NewInt(a), big.NewInt(b), new(big.Int)
	switch op {
	case code.Add:
		n.Add(x, y)
	case code.Sub:
		n.Sub(x, y)
	case code.Mul:
		n.Mul(x, y)
	case code.Less:
		return answer{v: value.Truth(x.Cmp(y) < 0)}
	}
	return number64(round(n))
}

// ahead: does a text come ahead of another one, byte by byte?
func ahead(a, b string) bool {
	for i := 0; i < len(a) && i < len(b); i++ {
		if a[i] != b[i] {
			return a[i] < b[i]
		}
	}
	return len(a) < len(b)
}

// digits: a number's, from the last on.
func digits(n int64) string {
	x, ten, s := new(big.Int).Abs(big.NewInt(n)), big.NewInt(10), ""
	for {
		d := new(big.Int)
		x.DivMod(x, ten, d)
		s = "0123456789"[d.Int64():d.Int64()+1] + s
		if x.Sign() == 0 {
			break
		}
	}
	if n < 0 {
		return "-" + s
	}
	return s
}

// told: what chapter 12 tells of any op between any values.
func told(op code.Op, a, b value.Value) answer {
	switch op {
	case code.Equal:
		return answer{v: value.Truth(a.Kind == b.Kind && a.N == b.N && a.S == b.S)}
	case code.Unlike:
		return answer{v: value.Truth(a.Kind != b.Kind || a.N != b.N || a.S != b.S)}
	case code.Add, code.Sub, code.Mul, code.Less:
	default:
		return none
	}
	switch {
	case numeric(a) && numeric(b):
		return reckoned(op, a.N, b.N)
	case textual(a) && textual(b) && op == code.Less:
		return answer{v: value.Truth(ahead(a.S, b.S))}
	case textual(a) && textual(b) && op == code.Add && len(a.S)+len(b.S) > 200:
		return long
	case textual(a) && textual(b) && op == code.Add:
		return words(a.S + b.S)
	}
	return kind
}

func TestTheChaptersExample(t *testing.T) { // P12.1
	asksTwo(t, code.Add, value.Words("a"), value.Words("b"), words("ab"))
}

func TestSignsOfNumbers(t *testing.T) { // P12.1
	for _, c := range []struct {
		op         code.Op
		a, b, want int64
	}{
		{code.Add, 2, 3, 5}, {code.Add, -2, 3, 1}, {code.Add, 2, -3, -1}, {code.Add, 0, 0, 0}, {code.Add, 7, 0, 7},
		{code.Sub, 2, 3, -1}, {code.Sub, 3, 2, 1}, {code.Sub, -2, -3, 1}, {code.Sub, 0, 7, -7}, {code.Sub, 7, 0, 7},
		{code.Mul, 2, 3, 6}, {code.Mul, -2, 3, -6}, {code.Mul, -2, -3, 6}, {code.Mul, 0, 7, 0}, {code.Mul, 1, 7, 7},
		// No float stands in between.
		{code.Add, 1 << 53, 1, 9007199254740993}, {code.Mul, 3037000499, 3037000499, 9223372030926249001},
	} {
		asksTwo(t, c.op, value.Number(c.a), value.Number(c.b), number64(c.want))
	}
}

func TestNumbersGoRound(t *testing.T) { // P12.1
	const most, least = math.MaxInt64, math.MinInt64
	for _, c := range []struct {
		op         code.Op
		a, b, want int64
	}{
		{code.Add, most, 1, least}, {code.Add, least, -1, most}, {code.Add, most, most, -2}, {code.Add, least, least, 0}, {code.Add, most, least, -1},
		{code.Sub, least, 1, most}, {code.Sub, most, -1, least}, {code.Sub, 0, least, least}, {code.Sub, -1, least, most}, {code.Sub, most, least, -1}, {code.Sub, least, most, 1},
		{code.Mul, most, 2, -2}, {code.Mul, least, 2, 0}, {code.Mul, least, -1, least}, {code.Mul, most, most, 1}, {code.Mul, least, least, 0},
		{code.Mul, 1 << 32, 1 << 32, 0}, {code.Mul, 1 << 32, 1 << 31, least}, {code.Mul, 3037000500, 3037000500, -9223372036709301616},
	} {
		asksTwo(t, c.op, value.Number(c.a), value.Number(c.b), number64(c.want))
	}
	asksOne(t, code.Minus, value.Number(least), number64(least))
}

func TestTextsAreJoined(t *testing.T) { // P12.1: the second behind the first, byte by byte as they are
	for _, c := range []struct{ a, b, want string }{
		{"", "", ""}, {"a", "", "a"}, {"", "a", "a"}, {"a", "b", "ab"}, {"b", "a", "ba"}, {"ab", "cd", "abcd"},
		{"1", "2", "12"}, {"a ", " b", "a  b"}, {"\n", "\x00", "\n\x00"},
		{"\xe6\x97", "\xa5", "日"}, {"\xff", "\xfe", "\xff\xfe"},
	} {
		asksTwo(t, code.Add, value.Words(c.a), value.Words(c.b), words(c.want))
	}
}

func TestTextsThatAreMadeHaveALimit(t *testing.T) { // P12.1: ErrLong above MaxText bytes of both, wherever they meet
	if api.MaxText != 200 {
		t.Fatalf("MaxText is %d", api.MaxText)
	}
	for n := range 210 {
		for m := range 210 {
			a, b := strings.Repeat("x", n), strings.Repeat("y", m)
			want := words(a + b)
			if n+m >= 201 {
				want = long
			}
			asksTwo(t, code.Add, value.Words(a), value.Words(b), want)
		}
	}
	// Bytes are counted, not letters.
	asksTwo(t, code.Add, value.Words(strings.Repeat("é", 50)), value.Words(strings.Repeat("é", 50)), words(strings.Repeat("é", 100)))
	asksTwo(t, code.Add, value.Words(strings.Repeat("é", 50)), value.Words(strings.Repeat("é", 51)), long)
	asksTwo(t, code.Add, value.Words(strings.Repeat("\x80", 100)), value.Words(strings.Repeat("\x80", 100)), words(strings.Repeat("\x80", 200)))
	// So it is of one that was too long ahead, and of nothing behind it.
	for _, s := range []string{strings.Repeat("x", 201), strings.Repeat("x", 8190), strings.Repeat("x", 1<<20)} {
		asksTwo(t, code.Add, value.Words(s), value.Words(""), long)
		asksTwo(t, code.Add, value.Words(""), value.Words(s), long)
		asksTwo(t, code.Add, value.Words(s), value.Words(s), long)
	}
}

func TestNoOtherSignIsTooLong(t *testing.T) { // P12.1: nothing is made of texts that are held against each other
	a, b := value.Words(strings.Repeat("x", 5000)), value.Words(strings.Repeat("x", 4999)+"y")
	asksTwo(t, code.Less, a, b, yes)
	asksTwo(t, code.Less, b, a, no)
	asksTwo(t, code.Equal, a, a, yes)
	asksTwo(t, code.Equal, a, b, no)
	asksTwo(t, code.Unlike, a, b, yes)
	asksTwo(t, code.Sub, a, b, kind)
	asksTwo(t, code.Add, a, value.Number(1), kind)
	asksText(t, a, words(a.S))
}

func TestNumbersAndTextsInOrder(t *testing.T) { // P12.1
	n := []int64{math.MinInt64, math.MinInt64 + 1, math.MinInt32, -10, -9, -1, 0, 1, 9, 10, math.MaxUint32, math.MaxInt64 - 1, math.MaxInt64}
	s := []string{"", "\x00", "\n", " ", "-1", "-2", "10", "9", "A", "Z", "a", "a\x00", "aa", "ab", "b", "z", "é", "\uffff", "\U0010ffff", "\xff", "\xff\x00"}
	for i := range n {
		for j := range n {
			asksTwo(t, code.Less, value.Number(n[i]), value.Number(n[j]), answer{v: value.Truth(i < j)})
		}
	}
	for i := range s {
		for j := range s {
			asksTwo(t, code.Less, value.Words(s[i]), value.Words(s[j]), answer{v: value.Truth(i < j)})
		}
	}
}

func TestOtherValuesHaveNoSigns(t *testing.T) { // P12.1: ErrKind, on both sides and on one
	for _, op := range []code.Op{code.Add, code.Sub, code.Mul, code.Less} {
		for _, a := range others() {
			for _, b := range some() {
				asksTwo(t, op, a, b, kind)
				asksTwo(t, op, b, a, kind)
			}
		}
		for _, n := range edges {
			for _, s := range texts {
				asksTwo(t, op, value.Number(n), value.Words(s), kind)
				asksTwo(t, op, value.Words(s), value.Number(n), kind)
			}
		}
	}
	for _, op := range []code.Op{code.Sub, code.Mul} {
		for _, s := range texts {
			asksTwo(t, op, value.Words(s), value.Words("1"), kind)
			asksTwo(t, op, value.Words("1"), value.Words(s), kind)
		}
	}
}

func TestAreTheyTheSame(t *testing.T) { // P12.1, chapter 2: of all kinds, and never ErrKind
	l := some()
	for i, a := range l {
		for j, b := range l {
			asksTwo(t, code.Equal, a, b, answer{v: value.Truth(i == j)})
			asksTwo(t, code.Unlike, a, b, answer{v: value.Truth(i != j)})
		}
	}
	for _, c := range []struct{ a, b value.Value }{
		{value.Value{}, value.Truth(false)}, {value.Value{}, value.Number(0)}, {value.Value{}, value.Words("")}, {value.Value{}, value.Words("nil")},
		{value.Truth(false), value.Number(0)}, {value.Truth(true), value.Number(1)}, {value.Number(5), value.Words("5")},
		{value.Word(1), value.Number(1)}, {value.Word(0), value.Object(ref.None)}, {value.Object(1), value.Number(1)},
		{value.Object(ref.Of(1, 0)), value.Object(ref.Of(1, 1))}, {value.Words("a"), value.Words("A")},
	} {
		asksTwo(t, code.Equal, c.a, c.b, no)
		asksTwo(t, code.Unlike, c.a, c.b, yes)
	}
	// Two texts of the same bytes are one value, wherever those bytes stand.
	a, b := strings.Repeat("ab", 3), strings.Join([]string{"ab", "ab", "ab"}, "")
	asksTwo(t, code.Equal, value.Words(a), value.Words(b), yes)
	asksTwo(t, code.Unlike, value.Words(a), value.Words(b), no)
}

func TestNotAsksWhatCountsAsTrue(t *testing.T) { // P12.1, P2.1: of all kinds
	asksOne(t, code.Not, value.Value{}, yes)
	asksOne(t, code.Not, value.Truth(false), yes)
	asksOne(t, code.Not, value.Truth(true), no)
	for _, v := range some()[3:] {
		asksOne(t, code.Not, v, no)
	}
	for _, v := range []value.Value{value.Number(0), value.Words(""), value.Word(0), value.Object(ref.None)} {
		asksOne(t, code.Not, v, no)
	}
}

func TestMinus(t *testing.T) { // P12.1
	for _, c := range []struct{ n, want int64 }{
		{0, 0}, {1, -1}, {-1, 1}, {7, -7}, {-10, 10}, {math.MaxInt64, math.MinInt64 + 1}, {math.MinInt64 + 1, math.MaxInt64}, {math.MinInt64, math.MinInt64},
	} {
		asksOne(t, code.Minus, value.Number(c.n), number64(c.want))
	}
	for _, n := range edges {
		asksOne(t, code.Minus, value.Number(n), reckoned(code.Sub, 0, n))
	}
	for _, v := range others() {
		asksOne(t, code.Minus, v, kind)
	}
	for _, s := range texts {
		asksOne(t, code.Minus, value.Words(s), kind)
	}
}

func TestOtherOpsAreNoSigns(t *testing.T) { // P12.1: whatever the values; signs of one aren't signs of two
	signs := map[code.Op]bool{code.Add: true, code.Sub: true, code.Mul: true, code.Equal: true, code.Unlike: true, code.Less: true}
	for n := range 256 {
		op := code.Op(n)
		for _, a := range some() {
			if op != code.Not && op != code.Minus {
				asksOne(t, op, a, none)
			}
			if signs[op] {
				continue
			}
			for _, b := range []value.Value{{}, value.Truth(true), value.Number(1), value.Words("a"), value.Object(1), a} {
				asksTwo(t, op, a, b, none)
			}
		}
	}
}

func TestTextsOfNumbers(t *testing.T) { // P12.1
	for _, c := range []struct {
		n    int64
		want string
	}{
		{0, "0"}, {7, "7"}, {-7, "-7"}, {10, "10"}, {-10, "-10"}, {100, "100"}, {1234567890, "1234567890"},
		{math.MaxInt64, "9223372036854775807"}, {math.MinInt64, "-9223372036854775808"},
	} {
		asksText(t, value.Number(c.n), words(c.want))
	}
	for _, n := range edges {
		asksText(t, value.Number(n), words(digits(n)))
	}
	for n := int64(-1200); n <= 1200; n++ {
		asksText(t, value.Number(n), words(digits(n)))
	}
}

func TestTextsOfTexts(t *testing.T) { // P12.1: as they are, without quotes, however long
	for _, s := range append(texts, `"`, `a"b`, `\`, "a\nb", "007", "-0") {
		asksText(t, value.Words(s), words(s))
	}
}

func TestOtherValuesHaveNoText(t *testing.T) { // P12.1
	for _, v := range others() {
		asksText(t, v, kind)
	}
}

func TestWhatAKindHasNoUseForIsZero(t *testing.T) { // chapter 2: also where a value was handed in that isn't so
	n, s := value.Value{Kind: value.Int, N: 3, S: "x"}, value.Value{Kind: value.Text, N: 3, S: "x"}
	asksTwo(t, code.Add, n, n, number64(6))
	asksTwo(t, code.Sub, n, n, number64(0))
	asksTwo(t, code.Mul, n, n, number64(9))
	asksTwo(t, code.Add, s, s, words("xx"))
	asksTwo(t, code.Less, n, value.Number(4), yes)
	asksTwo(t, code.Less, n, value.Number(3), no)
	asksTwo(t, code.Less, s, value.Words("y"), yes)
	asksTwo(t, code.Less, s, value.Words("x"), no)
	asksOne(t, code.Minus, n, number64(-3))
	asksText(t, n, words("3"))
	asksText(t, s, words("x"))
	// They are the same just if they are equal as structs.
	asksTwo(t, code.Equal, n, value.Number(3), no)
	asksTwo(t, code.Unlike, s, value.Words("x"), yes)
	asksTwo(t, code.Add, n, s, kind)
	// A truth counts by its number alone.
	asksOne(t, code.Not, value.Value{Kind: value.Bool, N: 2}, no)
	asksOne(t, code.Not, value.Value{Kind: value.Bool, S: "x"}, yes)
	asksOne(t, code.Not, value.Value{N: 1, S: "x"}, yes)
}

func TestAnswersAreOfTheirKind(t *testing.T) { // P12.1, R3: nothing beside an error; numbers, texts, truths without what they have no use for
	for n := range 256 {
		op := code.Op(n)
		for _, a := range some() {
			for _, b := range some() {
				v, e := Two(op, a, b)
				if e != api.OK && v != (value.Value{}) {
					t.Fatalf("op %d of %#v, %#v: %#v beside error %d", op, a, b, v, e)
				}
				if e == api.OK && v != remade(v) {
					t.Fatalf("op %d of %#v, %#v: %#v", op, a, b, v)
				}
			}
		}
	}
}

// remade: a truth, a number, a text as package value makes it; nothing of others.
func remade(v value.Value) value.Value {
	switch v.Kind {
	case value.Bool:
		return value.Truth(v.N == 1)
	case value.Int:
		return value.Number(v.N)
	case value.Text:
		return value.Words(v.S)
	}
	return value.Value{}
}

func TestAllAsTold(t *testing.T) { // P12.1: every op between all of some values
	l := some()
	for n := range 256 {
		for _, a := range l {
			for _, b := range l {
				asksTwo(t, code.Op(n), a, b, told(code.Op(n), a, b))
			}
		}
	}
}

func TestManyNumbersAndTexts(t *testing.T) { // P12.1
	r := rand.New(rand.NewSource(12))
	for range 200000 {
		op, a, b := code.Op(r.Intn(int(code.Ops)+2)), any64(r), any64(r)
		asksTwo(t, op, value.Number(a), value.Number(b), told(op, value.Number(a), value.Number(b)))
		asksOne(t, code.Minus, value.Number(a), reckoned(code.Sub, 0, a))
		asksText(t, value.Number(a), words(digits(a)))
		x, y := value.Words(bytes(r)), value.Words(bytes(r))
		asksTwo(t, op, x, y, told(op, x, y))
		if t.Failed() {
			return
		}
	}
}

// any64: a number of any width, often beside an edge.
func any64(r *rand.Rand) int64 {
	if r.Intn(3) == 0 {
		return edges[r.Intn(len(edges))] + int64(r.Intn(5)) - 2
	}
	return int64(r.Uint64()) >> r.Intn(64)
}

// bytes: a text of few different bytes, so that many begin alike; now and then one of about half of MaxText, or of all of it.
func bytes(r *rand.Rand) string {
	n := r.Intn(5)
	switch r.Intn(8) {
	case 0:
		n = 98 + r.Intn(5)
	case 1:
		n = 198 + r.Intn(5)
	}
	b := make([]byte, n)
	for i := range b {
		b[i] = "ab\x00\xff"[r.Intn(4)]
	}
	return string(b)
}

func TestLawsOfSigns(t *testing.T) { // P12.1: one sign held against another one
	l := some()
	for _, a := range l {
		for _, b := range l {
			same, unlike := two(code.Equal, a, b), two(code.Unlike, a, b)
			if same == unlike || same.v != value.Truth(a == b) {
				t.Errorf("%#v, %#v: both %#v", a, b, same)
			}
			if x, y := two(code.Less, a, b), two(code.Less, b, a); x == yes && y == yes || x == no && y == no && same != yes || (x == kind) != (y == kind) {
				t.Errorf("%#v, %#v: less %#v, and back %#v", a, b, x, y)
			}
			if d := two(code.Sub, a, b); d.e == api.OK && two(code.Add, d.v, b) != (answer{v: a}) {
				t.Errorf("%#v, %#v: less %#v, and that isn't given back", a, b, d)
			}
		}
		if x := one(code.Minus, a); x != two(code.Sub, value.Number(0), a) {
			t.Errorf("minus %#v: %#v", a, x)
		}
		if x := one(code.Not, one(code.Not, a).v); x.v.True() != a.True() {
			t.Errorf("not, not of %#v: %#v", a, x)
		}
		if x := text(a); x.e == api.OK && text(x.v) != x {
			t.Errorf("text of text of %#v: %#v", a, text(x.v))
		}
	}
}

func TestAnswersDependOnArgumentsAlone(t *testing.T) { // R6: in any order, from many at once
	l := some()
	type asked struct {
		op   code.Op
		i, j int
	}
	ask := func(down bool) map[asked]answer {
		out := map[asked]answer{}
		for n := range len(l) * len(l) {
			if down {
				n = len(l)*len(l) - 1 - n
			}
			i, j := n/len(l), n%len(l)
			for op := range code.Ops {
				out[asked{op, i, j}] = two(op, l[i], l[j])
			}
			out[asked{code.Not, i, -1}] = one(code.Not, l[i])
			out[asked{code.Minus, i, -1}] = one(code.Minus, l[i])
			out[asked{code.Ops, i, -1}] = text(l[i])
		}
		return out
	}
	want := ask(false)
	got := make([]map[asked]answer, 8)
	var wait sync.WaitGroup
	for n := range got {
		wait.Go(func() { got[n] = ask(n%2 == 0) })
	}
	wait.Wait()
	for _, g := range got {
		if len(g) != len(want) {
			t.Fatalf("%d answers, not %d", len(g), len(want))
		}
		for k, a := range want {
			if g[k] != a {
				t.Errorf("%+v: %#v, then %#v", k, a, g[k])
			}
		}
	}
}
