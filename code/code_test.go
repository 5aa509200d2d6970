package code

import (
	"fmt"
	"math"
	"math/rand"
	"reflect"
	"slices"
	"strconv"
	"strings"
	"testing"

	"paling/value"
)

// op is what the chapter tells of an op.
type op struct {
	op     Op
	word   string
	writes bool
	ends   bool
}

// told: the chapter's ops, in their order.
func told() []op {
	return []op{
		{op: Const, word: "const", writes: true},
		{op: Move, word: "move", writes: true},
		{op: New, word: "new", writes: true},
		{op: Get, word: "get", writes: true},
		{op: Put, word: "put"},
		{op: Close, word: "close", writes: true},
		{op: Call, word: "call", writes: true},
		{op: Minus, word: "minus", writes: true},
		{op: Not, word: "not", writes: true},
		{op: Add, word: "add", writes: true},
		{op: Sub, word: "sub", writes: true},
		{op: Mul, word: "mul", writes: true},
		{op: Equal, word: "equal", writes: true},
		{op: Unlike, word: "unlike", writes: true},
		{op: Less, word: "less", writes: true},
		{op: Jump, word: "jump", ends: true},
		{op: Back, word: "back", ends: true},
		{op: Unless, word: "unless"},
		{op: Return, word: "return", ends: true},
		{op: Throw, word: "throw", ends: true},
		{op: Try, word: "try", writes: true},
		{op: Done, word: "done"},
	}
}

// none: the numbers of no op.
func none() []Op {
	var l []Op
	for n := len(told()); n <= math.MaxUint8; n++ {
		l = append(l, Op(n))
	}
	return l
}

// edges are numbers that an instruction may have.
var edges = []int{0, 1, -1, 9, 10, -10, 99, 100, 2000, math.MaxInt32, math.MinInt32, math.MaxUint32 + 1, math.MaxInt64, math.MinInt64}

// digits: a number's, reckoned one by one from the last on.
func digits(n int) string {
	if n == math.MinInt64 {
		return "-9223372036854775808"
	}
	if n < 0 {
		return "-" + digits(-n)
	}
	if n < 10 {
		return "0123456789"[n : n+1]
	}
	return digits(n/10) + digits(n%10)
}

func TestOpsAreNumberedInOrder(t *testing.T) { // chapter 9, Types
	for i, c := range told() {
		if int(c.op) != i {
			t.Errorf("%s has the number %d, not %d", c.word, c.op, i)
		}
	}
	if int(Ops) != len(told()) || Ops != 22 {
		t.Errorf("there are %d ops", Ops)
	}
}

func TestTheChaptersExample(t *testing.T) { // P9.1
	if s := (Instr{Add, 1, 2, 3}).String(); s != "add 1 2 3" {
		t.Errorf("%q", s)
	}
}

func TestEachOpIsTold(t *testing.T) { // P9.1: all three numbers, whatever the op has a use for
	for _, c := range told() {
		for _, n := range [][3]int{{}, {1, 2, 3}, {3, 2, 1}, {0, 0, 7}, {0, 7, 0}, {7, 0, 0}, {12, 345, 6789}, {-1, -20, -300}} {
			want := c.word + " " + digits(n[0]) + " " + digits(n[1]) + " " + digits(n[2])
			if s := (Instr{c.op, n[0], n[1], n[2]}).String(); s != want {
				t.Errorf("op %d, %v: %q, not %q", c.op, n, s, want)
			}
		}
	}
}

func TestNumbersAreToldAtTheirEdges(t *testing.T) { // P9.1
	for _, n := range edges {
		d := digits(n)
		for _, c := range []struct {
			x    Instr
			want string
		}{
			{Instr{Const, n, 0, 0}, "const " + d + " 0 0"},
			{Instr{Put, 0, n, 0}, "put 0 " + d + " 0"},
			{Instr{Done, 0, 0, n}, "done 0 0 " + d},
			{Instr{Call, n, n, n}, "call " + d + " " + d + " " + d},
		} {
			if s := c.x.String(); s != c.want {
				t.Errorf("%#v: %q, not %q", c.x, s, c.want)
			}
		}
	}
}

func TestNoOpIsToldAsAQuestion(t *testing.T) { // P9.1: from Ops on; no numbers
	for _, o := range none() {
		for _, x := range []Instr{{Op: o}, {o, 1, 2, 3}, {o, math.MinInt64, -1, math.MaxInt64}} {
			if s := x.String(); s != "?" {
				t.Errorf("%#v: %q", x, s)
			}
		}
	}
}

func TestInstructionsAreReadBack(t *testing.T) { // P9.1: no two instructions have the same text
	words := map[string]Op{}
	for _, c := range told() {
		words[c.word] = c.op
	}
	r := rand.New(rand.NewSource(9))
	for range 20000 {
		x := some(r)
		if x.Op >= Ops {
			continue
		}
		p := strings.Split(x.String(), " ")
		if len(p) != 4 {
			t.Fatalf("%#v: %q", x, x.String())
		}
		o, ok := words[p[0]]
		back := Instr{Op: o}
		for i, n := range []*int{&back.A, &back.B, &back.C} {
			v, err := strconv.ParseInt(p[i+1], 10, 64)
			ok = ok && err == nil
			*n = int(v)
		}
		if !ok || back != x {
			t.Fatalf("%#v: %q, read as %#v", x, x.String(), back)
		}
	}
}

// some: an instruction, now and then one of no op.
func some(r *rand.Rand) Instr {
	n := func() int {
		switch r.Intn(3) {
		case 0:
			return edges[r.Intn(len(edges))]
		case 1:
			return r.Intn(3000) - 500
		}
		return int(r.Uint64())
	}
	return Instr{Op(r.Intn(int(Ops) + 3)), n(), n(), n()}
}

func TestFunctionsArePrinted(t *testing.T) { // P9.1
	consts := []value.Value{value.Number(1), value.Words("a\nb")}
	for _, c := range []struct {
		f    Func
		want string
	}{
		{Func{}, "fn 0 0 0\n"},
		{Func{Held: []int{}, Consts: []value.Value{}, Code: []Instr{}}, "fn 0 0 0\n"},
		{Func{Params: 1, Regs: 2}, "fn 1 0 2\n"},
		{Func{Params: 100, Held: []int{7, 8, 9}, Regs: 103}, "fn 100 3 103\n"},
		{Func{Held: []int{4}}, "fn 0 1 0\n"}, // how many, not which
		{Func{Held: make([]int, 12, 30)}, "fn 0 12 0\n"},
		{Func{Regs: 5, Consts: consts}, "fn 0 0 5\n"}, // constants aren't told
		{Func{Params: -1, Regs: -20}, "fn -1 0 -20\n"},
		{Func{Params: math.MinInt64, Regs: math.MaxInt64}, "fn -9223372036854775808 0 9223372036854775807\n"},
		{Func{Params: math.MaxInt64, Regs: math.MinInt64}, "fn 9223372036854775807 0 -9223372036854775808\n"},
		{Func{Code: []Instr{{}}}, "fn 0 0 0\nconst 0 0 0\n"},
		{Func{Code: []Instr{{Op: Ops}}}, "fn 0 0 0\n?\n"},
		{Func{Code: []Instr{{Op: 255, A: 1, B: 2, C: 3}, {Done, 1, 2, 3}}}, "fn 0 0 0\n?\ndone 1 2 3\n"},
		{Func{Regs: 1, Consts: consts, Code: []Instr{{Const, 0, 1, 0}, {Return, 0, 0, 0}}}, "fn 0 0 1\nconst 0 1 0\nreturn 0 0 0\n"},
		{
			Func{Params: 2, Held: []int{5, 5}, Regs: 9, Code: []Instr{{Get, 4, 0, 1}, {Call, 4, 4, 2}, {Unless, 4, 0, 0}, {Unless, 4, 0, 0}, {Throw, -4, 0, 0}}},
			"fn 2 2 9\nget 4 0 1\ncall 4 4 2\nunless 4 0 0\nunless 4 0 0\nthrow -4 0 0\n",
		},
	} {
		if s := c.f.Print(); s != c.want {
			t.Errorf("%#v: %q, not %q", c.f, s, c.want)
		}
	}
}

func TestPrintHasALineForEachInstruction(t *testing.T) { // P9.1
	r := rand.New(rand.NewSource(1))
	for many := range 200 {
		f := Func{Params: r.Intn(5), Held: make([]int, r.Intn(5)), Regs: r.Intn(100)}
		want := fmt.Sprintf("fn %d %d %d\n", f.Params, len(f.Held), f.Regs)
		for range many {
			x := some(r)
			f.Code = append(f.Code, x)
			want += x.String() + "\n"
		}
		if s := f.Print(); s != want {
			t.Fatalf("%d instructions: %q, not %q", many, s, want)
		}
	}
}

func TestPrintOfALongFunction(t *testing.T) { // P1
	f := Func{Code: slices.Repeat([]Instr{{Less, 1, 22, 333}}, 300000)}
	if s := f.Print(); s != "fn 0 0 0\n"+strings.Repeat("less 1 22 333\n", 300000) {
		t.Errorf("%d bytes", len(s))
	}
}

func TestPrintChangesNothing(t *testing.T) { // R5, R6: spare room included
	fresh := func() Func {
		held, consts := []int{3, 4, 5}, []value.Value{value.Number(1), value.Words("a")}
		code := []Instr{{Move, 1, 2, 0}, {Return, 1, 0, 0}, {Throw, 7, 8, 9}}
		return Func{Params: 1, Held: held[:2], Regs: 4, Consts: consts[:1], Code: code[:2]}
	}
	f, g := fresh(), fresh()
	first := f.Print()
	if s := f.Print(); s != first {
		t.Errorf("first %q, then %q", first, s)
	}
	if !reflect.DeepEqual(f, g) || !reflect.DeepEqual(f.Held[:3], g.Held[:3]) || !reflect.DeepEqual(f.Consts[:2], g.Consts[:2]) || !reflect.DeepEqual(f.Code[:3], g.Code[:3]) {
		t.Errorf("%#v, not %#v", f, g)
	}
	f.Code[0].A = 9
	if first != g.Print() {
		t.Errorf("%q changed with the function", first)
	}
}

func TestWrites(t *testing.T) { // P9.1
	for _, c := range told() {
		if c.op.Writes() != c.writes {
			t.Errorf("%s sets A: %t", c.word, c.op.Writes())
		}
	}
	for _, o := range none() {
		if o.Writes() {
			t.Errorf("no op, %d, sets A", o)
		}
	}
}

func TestEnds(t *testing.T) { // P9.1
	for _, c := range told() {
		if c.op.Ends() != c.ends {
			t.Errorf("%s ends: %t", c.word, c.op.Ends())
		}
	}
	for _, o := range none() {
		if o.Ends() {
			t.Errorf("no op, %d, ends", o)
		}
	}
}
