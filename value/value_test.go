package value

import (
	"math"
	"strconv"
	"strings"
	"testing"

	"paling/ref"
)

// numbers: edges of 64 bits with a sign, and of the widths below.
var numbers = []int64{0, 1, -1, 2, 9, 10, -10, math.MaxUint8, math.MaxInt32, math.MaxInt32 + 1, math.MinInt32, math.MaxUint32, math.MaxUint32 + 1, math.MaxInt64 - 1, math.MaxInt64, math.MinInt64 + 1, math.MinInt64}

// quoted: texts, and how strconv.Quote has each, written out by hand.
var quoted = []struct{ s, want string }{
	{"", `""`},
	{"a", `"a"`},
	{" ", `" "`},
	{"nil", `"nil"`},
	{"-5", `"-5"`},
	{`"`, `"\""`},
	{`say "so"`, `"say \"so\""`},
	{`'`, `"'"`},
	{"`", "\"`\""},
	{`\`, `"\\"`},
	{`\n`, `"\\n"`},
	{"\n", `"\n"`},
	{"a\n", `"a\n"`},
	{"\r\t\v\f\a\b", `"\r\t\v\f\a\b"`},
	{"\x00", `"\x00"`},
	{"\x1b", `"\x1b"`},
	{"\x7f", `"\x7f"`},
	{"\x80", `"\x80"`},
	{"\xff\xfe", `"\xff\xfe"`},
	{"a\xc3", `"a\xc3"`},
	{"\xed\xa0\x80", `"\xed\xa0\x80"`},
	{"é", `"é"`},
	{"日本", `"日本"`},
	{"\u00a0", `"\u00a0"`},
	{"\u2028", `"\u2028"`},
	{"\ufffd", `"�"`},
	{"\U0010ffff", `"\U0010ffff"`},
}

// refs: Refs at which a conversion to a number with a sign shows.
var refs = []ref.Ref{ref.None, 1, 7, math.MaxUint32, ref.Of(0, 1), ref.Of(1, 2), math.MaxInt64, math.MaxInt64 + 1, ref.Of(0, math.MaxUint32), ref.Of(math.MaxUint32, 0), math.MaxUint64 - 1, math.MaxUint64}

// some: two values of each kind, and of kinds that aren't there.
func some() []Value {
	return []Value{
		{}, {Kind: Nil},
		Truth(false), Truth(true),
		Number(0), Number(7),
		Words(""), Words("a"),
		Word(0), Word(7),
		Object(ref.None), Object(7),
		{Kind: Kinds, N: 7}, {Kind: math.MaxUint8, N: 7},
	}
}

// never: of values that aren't objects nobody is asked.
func never(t *testing.T) func(ref.Ref) string {
	return func(r ref.Ref) string {
		t.Errorf("object is asked of %d", r)
		return "?"
	}
}

func TestKindsAreNumberedInOrder(t *testing.T) { // chapter 2, Types
	for i, k := range []Kind{Nil, Bool, Int, Text, Prim, Obj, Kinds} {
		if int(k) != i {
			t.Errorf("kind %d has the number %d", i, k)
		}
	}
}

func TestTheZeroValueIsNothing(t *testing.T) { // chapter 2, Words
	var v Value
	if v.Kind != Nil || v.N != 0 || v.S != "" || v.True() || v.Key() || v.Ref() != ref.None || v.String(never(t)) != "nil" {
		t.Errorf("%#v", v)
	}
}

func TestTruthHasNoughtOrOne(t *testing.T) { // P2.1
	if got := Truth(false); got != (Value{Bool, 0, ""}) {
		t.Errorf("Truth(false) is %#v", got)
	}
	if got := Truth(true); got != (Value{Bool, 1, ""}) {
		t.Errorf("Truth(true) is %#v", got)
	}
}

func TestNumberHasItsNumber(t *testing.T) { // P2.1
	for _, n := range numbers {
		if got := Number(n); got != (Value{Int, n, ""}) {
			t.Errorf("Number(%d) is %#v", n, got)
		}
	}
}

func TestWordsHasItsBytes(t *testing.T) { // P2.1
	long := strings.Repeat("a\xff\"\n", 5000)
	if got := Words(long); got != (Value{Text, 0, long}) {
		t.Errorf("a text of %d bytes has %d", len(long), len(got.S))
	}
	for _, c := range quoted {
		if got := Words(c.s); got != (Value{Text, 0, c.s}) {
			t.Errorf("Words(%q) is %#v", c.s, got)
		}
	}
}

func TestWordHasItsNumber(t *testing.T) { // P2.1
	for _, n := range numbers {
		if got := Word(n); got != (Value{Prim, n, ""}) {
			t.Errorf("Word(%d) is %#v", n, got)
		}
	}
}

func TestObjectHasItsRef(t *testing.T) { // P2.1
	for _, c := range []struct {
		r ref.Ref
		n int64
	}{
		{ref.None, 0},
		{7, 7},
		{8589934593, 8589934593},
		{math.MaxInt64, math.MaxInt64},
		{math.MaxInt64 + 1, math.MinInt64},
		{math.MaxUint64, -1},
	} {
		if got := Object(c.r); got != (Value{Obj, c.n, ""}) {
			t.Errorf("Object(%d) is %#v", c.r, got)
		}
	}
}

func TestRefComesBack(t *testing.T) { // P2.1
	for _, r := range refs {
		if got := Object(r).Ref(); got != r {
			t.Errorf("Object(%d).Ref() is %d", r, got)
		}
	}
}

func TestRefOfOthersIsNone(t *testing.T) { // P2.1
	for k := range math.MaxUint8 + 1 {
		for _, n := range []int64{1, 7, -1, 8589934593} {
			v := Value{Kind: Kind(k), N: n, S: "7"}
			if v.Kind != Obj && v.Ref() != ref.None {
				t.Errorf("%#v has the Ref %d", v, v.Ref())
			}
		}
	}
}

func TestTrueIsFalseOfNothingAndFalseAlone(t *testing.T) { // P2.1
	for _, v := range some() {
		want := v != Value{} && v != Truth(false)
		if v.True() != want {
			t.Errorf("%#v counts as true: %t", v, v.True())
		}
	}
	for _, n := range numbers {
		if !Number(n).True() || !Word(n).True() || !(Value{Kind: Obj, N: n}).True() {
			t.Errorf("a number, a word or an object of %d doesn't count as true", n)
		}
		if (Value{Kind: Nil, N: n}).True() || (Value{Kind: Bool, N: n}).True() != (n != 0) {
			t.Errorf("Nil or a Bool with N %d", n)
		}
	}
	if (Value{Kind: Nil, S: "a"}).True() || (Value{Kind: Bool, S: "a"}).True() {
		t.Error("a text makes Nil, or a Bool with N 0, true")
	}
}

func TestKeysAreNumbersAndTexts(t *testing.T) { // P2.1
	for k := range math.MaxUint8 + 1 {
		want := Kind(k) == Int || Kind(k) == Text
		for _, v := range []Value{{Kind: Kind(k)}, {Kind: Kind(k), N: 1}, {Kind: Kind(k), N: -1, S: "a"}} {
			if v.Key() != want {
				t.Errorf("%#v is a key: %t", v, v.Key())
			}
		}
	}
	if !Number(math.MinInt64).Key() || !Words("").Key() || Truth(true).Key() || Word(1).Key() || Object(1).Key() {
		t.Error("keys of what the calls made")
	}
}

func TestTheSameJustIfEqual(t *testing.T) { // chapter 2, Words
	made := []Value{{}, Truth(false), Truth(true)}
	for _, n := range []int64{0, 1, math.MinInt64} {
		made = append(made, Number(n), Word(n), Object(ref.Ref(n)))
	}
	for _, s := range []string{"", "0", "1", "true", "\xff"} {
		made = append(made, Words(s))
	}
	for i, a := range made {
		for j, b := range made {
			if (a == b) != (i == j) {
				t.Errorf("%#v and %#v are the same: %t", a, b, a == b)
			}
		}
	}
	if Truth(true) != Truth(true) || Words("ab") != Words(strings.Repeat("ab", 1)) || Object(7) != Object(7) {
		t.Error("two that were made alike differ")
	}
}

func TestStringOfTruths(t *testing.T) { // P2.2
	for _, c := range []struct {
		v    Value
		want string
	}{
		{Value{}, "nil"},
		{Value{Nil, 1, "a"}, "nil"},
		{Truth(false), "false"},
		{Truth(true), "true"},
		{Value{Bool, -1, ""}, "true"},
	} {
		if got := c.v.String(never(t)); got != c.want {
			t.Errorf("%#v tells %s, not %s", c.v, got, c.want)
		}
	}
}

func TestStringOfNumbersAndWords(t *testing.T) { // P2.2
	for _, c := range []struct {
		n    int64
		want string
	}{
		{0, "0"}, {1, "1"}, {-1, "-1"}, {-5, "-5"}, {10, "10"}, {255, "255"},
		{math.MaxInt32, "2147483647"},
		{math.MaxUint32 + 1, "4294967296"},
		{math.MaxInt64, "9223372036854775807"},
		{math.MinInt64, "-9223372036854775808"},
	} {
		if got := Number(c.n).String(never(t)); got != c.want {
			t.Errorf("a number tells %s, not %s", got, c.want)
		}
		if got := Word(c.n).String(never(t)); got != "word "+c.want {
			t.Errorf("a word tells %s, not word %s", got, c.want)
		}
	}
}

func TestStringOfTexts(t *testing.T) { // P2.2
	for _, c := range quoted {
		if got := Words(c.s).String(never(t)); got != c.want {
			t.Errorf("%q tells %s, not %s", c.s, got, c.want)
		}
	}
	for b := range math.MaxUint8 + 1 {
		s := "a" + string([]byte{byte(b)}) + "b"
		if got := Words(s).String(never(t)); got != strconv.Quote(s) {
			t.Errorf("%q tells %s", s, got)
		}
	}
}

func TestStringOfObjectsIsWhatIsTold(t *testing.T) { // P2.2
	for _, r := range refs {
		for _, told := range []string{"", "#0", "a \"b\"\n\xff"} {
			var asked []ref.Ref
			got := Object(r).String(func(r ref.Ref) string {
				asked = append(asked, r)
				return told
			})
			if got != told || len(asked) != 1 || asked[0] != r {
				t.Errorf("of object %d %q is told, %q answered; asked: %d", r, told, got, asked)
			}
		}
	}
}

func TestStringOfNoKindAsksOfNone(t *testing.T) { // P2.2: others' Ref is None
	for k := int(Kinds); k <= math.MaxUint8; k++ {
		got := Value{Kind: Kind(k), N: 7, S: "a"}.String(func(r ref.Ref) string { return "told of " + strconv.FormatUint(uint64(r), 10) })
		if got != "told of 0" {
			t.Errorf("kind %d: %s", k, got)
		}
	}
}

func TestStringWithNobodyToTell(t *testing.T) { // P1
	for _, v := range some() {
		want := ""
		if v.Kind < Obj {
			want = v.String(never(t))
		}
		if got := v.String(nil); got != want {
			t.Errorf("%#v tells %q, not %q", v, got, want)
		}
	}
}
