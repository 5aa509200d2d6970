package valid

import (
	"math"
	"slices"
	"strconv"
	"strings"
	"testing"

	"paling/api"
	"paling/code"
	"paling/value"
)

// answer is what Check answers.
type answer struct {
	fn, at int
	e      api.Errno
}

func (a answer) String() string {
	return "function " + strconv.Itoa(a.fn) + ", instruction " + strconv.Itoa(a.at) + ", error " + strconv.Itoa(int(a.e))
}

func check(m code.Module) answer {
	fn, at, e := Check(m)
	return answer{fn, at, e}
}

func asks(t *testing.T, what string, m code.Module, want answer) {
	t.Helper()
	if got := check(m); got != want {
		t.Errorf("%s: %v, not %v", what, got, want)
	}
}

// instr: the instruction of a text such as code's String tells; ? and numbers behind it are one of no op.
func instr(s string) code.Instr {
	p := strings.Fields(s)
	x := code.Instr{Op: code.Ops}
	for o := range code.Ops {
		if strings.HasPrefix(code.Instr{Op: o}.String(), p[0]+" ") {
			x.Op = o
		}
	}
	for i, n := range []*int{&x.A, &x.B, &x.C} {
		if len(p) > i+1 {
			v, err := strconv.Atoi(p[i+1])
			if err != nil {
				panic(err)
			}
			*n = v
		}
	}
	return x
}

// lines: the instructions of a text, a line each.
func lines(s string) []code.Instr {
	var l []code.Instr
	for line := range strings.SplitSeq(s, "\n") {
		if strings.TrimSpace(line) != "" {
			l = append(l, instr(line))
		}
	}
	return l
}

// plain: a function that holds nothing, whose instructions do nothing.
func plain(many int) code.Func {
	l := slices.Repeat([]code.Instr{{Op: code.Done}}, many-1)
	return code.Func{Regs: 5, Consts: make([]value.Value, 3), Code: append(l, code.Instr{Op: code.Return})}
}

// holding: such a function that holds registers of those around it.
func holding(held ...int) code.Func {
	f := plain(2)
	f.Held, f.Regs = held, len(held)+1
	return f
}

// around: a module whose own function has 5 registers, 3 constants and 7 instructions, one of which is x; with three functions more.
func around(at int, x code.Instr) code.Module {
	own := plain(7)
	own.Code[at] = x
	return code.Module{Funcs: []code.Func{own, holding(0, 4), holding(), holding(4, 4, 1)}}
}

func TestTheChaptersExample(t *testing.T) { // P11.1
	asks(t, "a function without instructions", code.Module{Funcs: []code.Func{{}}}, answer{e: api.ErrSize})
}

func TestWhatMayBe(t *testing.T) { // P11.1: registers 0 to 4, constants 0 to 2, places 0 to 6, functions 1 to 3
	for _, s := range []string{
		"const 0 0", "const 4 2", "const 0 2", "const 4 0",
		"move 0 0", "move 4 0", "move 0 4", "minus 4 4", "not 4 4", "minus 0 4", "not 4 0",
		"new 0", "new 4", "return 0", "return 4", "throw 0", "throw 4",
		"get 0 0 0", "get 4 4 4", "put 0 0 0", "put 4 4 4", "put 4 0 4", "get 0 4 0",
		"add 4 4 4", "sub 4 4 4", "mul 4 4 4", "equal 4 4 4", "unlike 4 4 4", "less 4 4 4",
		"close 0 1", "close 4 2", "close 4 3",
		"call 0 0 0", "call 4 4 0", "call 4 0 4", "call 0 3 1", "call 2 1 3",
		"jump 0", "jump 6", "jump 3", "back 0", "back 6", "back 3",
		"unless 0 0", "unless 4 6", "try 0 0", "try 4 6",
		"done",
	} {
		for at := range 6 {
			asks(t, s, around(at, instr(s)), answer{})
		}
	}
}

func TestWhatMayNotBe(t *testing.T) { // P11.1: each part of an instruction, just beside what may be
	for _, s := range []string{
		"const -1 0", "const 5 0", "const 0 -1", "const 0 3",
		"move -1 0", "move 5 0", "move 0 -1", "move 0 5",
		"minus -1 0", "minus 5 0", "minus 0 -1", "minus 0 5",
		"not -1 0", "not 5 0", "not 0 -1", "not 0 5",
		"new -1", "new 5", "return -1", "return 5", "throw -1", "throw 5",
		"get -1 0 0", "get 5 0 0", "get 0 -1 0", "get 0 5 0", "get 0 0 -1", "get 0 0 5",
		"put -1 0 0", "put 5 0 0", "put 0 -1 0", "put 0 5 0", "put 0 0 -1", "put 0 0 5",
		"add -1 0 0", "add 5 0 0", "add 0 -1 0", "add 0 5 0", "add 0 0 -1", "add 0 0 5",
		"sub -1 0 0", "sub 5 0 0", "sub 0 -1 0", "sub 0 5 0", "sub 0 0 -1", "sub 0 0 5",
		"mul -1 0 0", "mul 5 0 0", "mul 0 -1 0", "mul 0 5 0", "mul 0 0 -1", "mul 0 0 5",
		"equal -1 0 0", "equal 5 0 0", "equal 0 -1 0", "equal 0 5 0", "equal 0 0 -1", "equal 0 0 5",
		"unlike -1 0 0", "unlike 5 0 0", "unlike 0 -1 0", "unlike 0 5 0", "unlike 0 0 -1", "unlike 0 0 5",
		"less -1 0 0", "less 5 0 0", "less 0 -1 0", "less 0 5 0", "less 0 0 -1", "less 0 0 5",
		"close -1 1", "close 5 1", "close 0 0", "close 0 -1", "close 0 4", "close 5 2", "close -1 2",
		"call -1 0 0", "call 5 0 0", "call 0 -1 0", "call 0 5 0", "call 0 -1 1", "call 0 -1 2", "call 0 5 -1",
		"call 0 0 5", "call 0 4 1", "call 0 1 4", "call 0 0 -1", "call 0 4 -1", "call 0 4 -4",
		"call 0 1 9223372036854775807", "call 0 4 9223372036854775807", "call 0 0 -9223372036854775808",
		"call 0 9223372036854775807 1", "call 0 9223372036854775807 9223372036854775807", "call 0 -9223372036854775808 9223372036854775807",
		"jump -1", "jump 7", "back -1", "back 7",
		"unless -1 0", "unless 5 0", "unless 0 -1", "unless 0 7",
		"try -1 0", "try 5 0", "try 0 -1", "try 0 7",
		"?",
	} {
		for at := range 7 {
			asks(t, s, around(at, instr(s)), answer{0, at, api.ErrCode})
			// So it is in any other function.
			m := around(at, instr(s))
			m.Funcs = append(m.Funcs[:3:3], m.Funcs[0])
			m.Funcs[0] = plain(1)
			asks(t, s+" in another function", m, answer{3, at, api.ErrCode})
		}
	}
}

func TestNoOps(t *testing.T) { // P11.1: from Ops on
	for n := int(code.Ops); n <= math.MaxUint8; n++ {
		for at := range 7 {
			asks(t, "op "+strconv.Itoa(n), around(at, code.Instr{Op: code.Op(n)}), answer{0, at, api.ErrCode})
		}
	}
}

func TestNumbersWithoutUseAreFree(t *testing.T) { // P11.1: only what an op has a use for is looked at
	for _, n := range []int{-1, 5, 7, 100, math.MaxInt64, math.MinInt64} {
		for _, x := range []code.Instr{
			{Op: code.Const, C: n}, {Op: code.Move, C: n}, {Op: code.New, B: n, C: n}, {Op: code.Close, B: 1, C: n},
			{Op: code.Minus, C: n}, {Op: code.Not, C: n}, {Op: code.Jump, B: n, C: n}, {Op: code.Back, B: n, C: n},
			{Op: code.Unless, C: n}, {Op: code.Return, B: n, C: n}, {Op: code.Throw, B: n, C: n}, {Op: code.Try, C: n},
			{Op: code.Done, A: n, B: n, C: n},
		} {
			asks(t, x.String(), around(3, x), answer{})
		}
	}
}

func TestTheLastInstruction(t *testing.T) { // P11.1: it is one that Ends, at its own place
	for o := range code.Ops {
		x := code.Instr{Op: o}
		if o == code.Close {
			x.B = 1
		}
		want := answer{0, 6, api.ErrCode}
		if o == code.Jump || o == code.Back || o == code.Return || o == code.Throw {
			want = answer{}
		}
		asks(t, x.String()+" at the end", around(6, x), want)
		asks(t, x.String()+" ahead of it", around(5, x), answer{})
		// The only one is the first one and the last.
		m := around(0, x)
		m.Funcs[0].Code = m.Funcs[0].Code[:1]
		want.at = 0
		asks(t, x.String()+" alone", m, want)
	}
}

func TestFunctionsOfAModule(t *testing.T) { // P11.1: 1 to MaxFuncs; told ahead of all that they have
	for many, want := range map[int]api.Errno{0: api.ErrSize, 1: 0, 2: 0, 99: 0, api.MaxFuncs: 0, api.MaxFuncs + 1: api.ErrSize, 5000: api.ErrSize} {
		asks(t, strconv.Itoa(many)+" functions", code.Module{Funcs: slices.Repeat([]code.Func{plain(3)}, many)}, answer{e: want})
	}
	asks(t, "a list without functions", code.Module{Funcs: []code.Func{}}, answer{e: api.ErrSize})
	wrong := plain(3)
	wrong.Code[1].Op = code.Ops
	l := slices.Repeat([]code.Func{wrong}, api.MaxFuncs+1)
	asks(t, "too many, all of them wrong", code.Module{Funcs: l}, answer{0, 0, api.ErrSize})
	asks(t, "just as many, all of them wrong", code.Module{Funcs: l[1:]}, answer{0, 1, api.ErrCode})
	l = slices.Repeat([]code.Func{plain(3)}, api.MaxFuncs)
	l[api.MaxFuncs-1] = wrong
	asks(t, "the last one is wrong", code.Module{Funcs: l}, answer{api.MaxFuncs - 1, 1, api.ErrCode})
}

// sizes is what a function has, and whether that may be.
type sizes struct {
	params, held, regs, instrs int
	well                       bool
}

func (s sizes) String() string {
	out := ""
	for _, n := range []int{s.params, s.held, s.regs, s.instrs} {
		out += " " + strconv.Itoa(n)
	}
	return "params, held, regs, instructions" + out
}

// fn: such a function, whose instructions have no need of registers.
func (s sizes) fn() code.Func {
	l := slices.Repeat([]code.Instr{{Op: code.Jump}}, s.instrs)
	return code.Func{Params: s.params, Held: make([]int, s.held), Regs: s.regs, Code: l}
}

func TestSizesOfFunctions(t *testing.T) { // P11.1, ErrSize
	for _, s := range []sizes{
		{0, 0, 0, 1, true}, {0, 0, 1, 1, true}, {0, 0, api.MaxRegs, 1, true}, {0, 0, api.MaxRegs + 1, 1, false},
		{0, 0, math.MaxInt64, 1, false}, {0, 0, -1, 1, false}, {0, 0, math.MinInt64, 1, false},
		{1, 0, 1, 1, true}, {1, 0, 0, 1, false}, {2, 0, 1, 1, false}, {0, 1, 1, 1, true}, {0, 1, 0, 1, false}, {0, 2, 1, 1, false},
		{1, 1, 2, 1, true}, {1, 1, 1, 1, false}, {2, 3, 5, 1, true}, {3, 3, 5, 1, false}, {2, 4, 5, 1, false},
		{api.MaxRegs, 0, api.MaxRegs, 1, true}, {0, api.MaxRegs, api.MaxRegs, 1, true}, {40, 60, api.MaxRegs, 1, true},
		{41, 60, api.MaxRegs, 1, false}, {40, 61, api.MaxRegs, 1, false}, {40, 61, api.MaxRegs + 1, 1, false}, {0, 5000, 5000, 1, false},
		{-1, 0, 0, 1, false}, {-1, 0, 5, 1, false}, {-1, 1, 0, 1, false}, {-3, 5, 2, 1, false}, {-1, 0, -1, 1, false},
		{math.MinInt64, 0, 5, 1, false}, {math.MinInt64, 3, 5, 1, false},
		{math.MaxInt64, 0, 5, 1, false}, {math.MaxInt64, 1, 5, 1, false}, {math.MaxInt64 - 1, 3, 5, 1, false}, {math.MaxInt64, 100, math.MaxInt64, 1, false},
		{0, 0, 5, 0, false}, {0, 0, 5, 2, true}, {0, 0, 5, api.MaxCode, true}, {0, 0, 5, api.MaxCode + 1, false}, {0, 0, 5, 20000, false},
		{0, 0, 0, 0, false}, {101, 101, 101, 0, false},
	} {
		want := answer{e: api.ErrSize}
		if s.well {
			want.e = api.OK
		}
		if s.well && s.params+s.held > 0 {
			want.e = api.ErrCode
		}
		asks(t, s.String()+", the module's own", code.Module{Funcs: []code.Func{s.fn()}}, want)
		asks(t, s.String()+", the first", code.Module{Funcs: []code.Func{s.fn(), plain(1)}}, want)
		for n := 1; n < 4; n++ {
			want := answer{}
			if !s.well {
				want = answer{n, 0, api.ErrSize}
			}
			l := slices.Repeat([]code.Func{plain(1)}, 4)
			l[n] = s.fn()
			asks(t, s.String()+", function "+strconv.Itoa(n), code.Module{Funcs: l}, want)
		}
	}
}

func TestTheModulesOwnHasNoneAndHoldsNothing(t *testing.T) { // P11.1: ErrCode beside instruction 0, behind its sizes, ahead of its instructions
	own := func(params int, held []int, change func(f *code.Func)) code.Module {
		f := plain(5)
		f.Params, f.Held = params, held
		change(&f)
		return code.Module{Funcs: []code.Func{f, plain(1)}}
	}
	nothing := func(*code.Func) {}
	wrong := func(f *code.Func) { f.Code[3].Op = code.Ops }
	asks(t, "nothing", own(0, []int{}, nothing), answer{})
	asks(t, "a parameter", own(1, nil, nothing), answer{e: api.ErrCode})
	asks(t, "as many as may be", own(5, nil, nothing), answer{e: api.ErrCode})
	asks(t, "it holds something", own(0, []int{0}, nothing), answer{e: api.ErrCode})
	asks(t, "both", own(1, []int{0}, nothing), answer{e: api.ErrCode})
	asks(t, "an instruction is wrong", own(0, nil, wrong), answer{0, 3, api.ErrCode})
	asks(t, "a parameter, and an instruction is wrong", own(1, nil, wrong), answer{0, 0, api.ErrCode})
	asks(t, "it holds something, and an instruction is wrong", own(0, []int{0}, wrong), answer{0, 0, api.ErrCode})
	asks(t, "a parameter, and no instructions", own(1, nil, func(f *code.Func) { f.Code = nil }), answer{e: api.ErrSize})
	asks(t, "a parameter too many", own(6, nil, nothing), answer{e: api.ErrSize})
	asks(t, "a parameter, and too many registers", own(1, nil, func(f *code.Func) { f.Regs = 101 }), answer{e: api.ErrSize})
	asks(t, "it holds too much", own(0, make([]int, 6), nothing), answer{e: api.ErrSize})
}

func TestHeldRegistersAreThoseAround(t *testing.T) { // P11.1: of a close, where it stands; whatever that function has itself
	for _, c := range []struct {
		held []int
		well bool
	}{
		{nil, true}, {[]int{}, true}, {[]int{0}, true}, {[]int{4}, true}, {[]int{0, 1, 2, 3, 4}, true}, {[]int{3, 3, 3}, true}, {[]int{4, 0, 4}, true},
		{[]int{5}, false}, {[]int{-1}, false}, {[]int{0, 5}, false}, {[]int{5, 0}, false}, {[]int{-1, 4}, false}, {[]int{4, -1}, false},
		{[]int{0, 1, -1, 3}, false}, {[]int{0, 1, 9, 3}, false}, {[]int{math.MaxInt64}, false}, {[]int{math.MinInt64}, false}, {[]int{math.MinInt64, math.MaxInt64, 0}, false},
		{[]int{1 << 32}, false}, {[]int{-1 << 32, 1}, false},
	} {
		at := func(fn, at int) answer {
			if c.well {
				return answer{}
			}
			return answer{fn, at, api.ErrCode}
		}
		for n := 1; n < 4; n++ {
			m := around(2, code.Instr{Op: code.Close, A: 1, B: n})
			m.Funcs[n] = holding(c.held...)
			m.Funcs[n].Regs = 100
			asks(t, "held", m, at(0, 2))
			// Where no closure of it is made nobody asks for them.
			m.Funcs[0].Code[2] = code.Instr{Op: code.Done}
			asks(t, "held, and not closed", m, answer{})
			other := 3 - n%2
			m.Funcs[other].Regs, m.Funcs[other].Code = 5, lines("done\ndone\nclose 1 "+strconv.Itoa(n)+"\nreturn 0")
			asks(t, "held, and closed in another function", m, at(other, 2))
			m = around(0, code.Instr{Op: code.Done})
			m.Funcs[n] = code.Func{Held: c.held, Regs: 5, Code: lines("close 1 " + strconv.Itoa(n) + "\nreturn 0")}
			asks(t, "held, and closed in itself", m, at(n, 0))
		}
	}
}

func TestClosesOfFunctionsThatAreWrong(t *testing.T) { // P11.1: function by function: what is wrong where it stands comes first
	long := holding(make([]int, 101)...)
	m := around(4, instr("close 0 2"))
	m.Funcs[2] = long
	asks(t, "it holds too much", m, answer{2, 0, api.ErrSize})
	long.Held[100] = 5
	asks(t, "it holds too much, the last of which isn't there", m, answer{0, 4, api.ErrCode})
	m.Funcs[2] = code.Func{}
	asks(t, "it has nothing", m, answer{2, 0, api.ErrSize})
	m = around(4, instr("close 0 2"))
	m.Funcs[1].Code = lines("close 0 2\nreturn 0")
	m.Funcs[1].Held, m.Funcs[1].Regs = nil, 2
	m.Funcs[2] = holding(4)
	asks(t, "its register is there in the one, not in the other", m, answer{1, 0, api.ErrCode})
	m.Funcs[1].Regs = 5
	asks(t, "its register is there in both", m, answer{})
}

func TestTheFirstErrorIsTold(t *testing.T) { // P11.1, R2: function by function, then instruction by instruction
	bad := plain(4)
	bad.Code[2], bad.Code[1] = instr("move 5 0"), instr("jump 4")
	none := code.Func{Regs: 5}
	params := plain(4)
	params.Params = 1
	open := plain(4)
	open.Code[3] = instr("done")
	for what, c := range map[string]struct {
		l    []code.Func
		want answer
	}{
		"two instructions":                  {[]code.Func{bad}, answer{0, 1, api.ErrCode}},
		"instructions, then sizes":          {[]code.Func{bad, none}, answer{0, 1, api.ErrCode}},
		"sizes, then instructions":          {[]code.Func{none, bad}, answer{0, 0, api.ErrSize}},
		"instructions behind a well one":    {[]code.Func{plain(4), bad, none}, answer{1, 1, api.ErrCode}},
		"sizes behind a well one":           {[]code.Func{plain(4), none, bad}, answer{1, 0, api.ErrSize}},
		"sizes of both":                     {[]code.Func{plain(4), none, none}, answer{1, 0, api.ErrSize}},
		"instructions of both":              {[]code.Func{plain(4), plain(1), bad, bad}, answer{2, 1, api.ErrCode}},
		"parameters, then sizes":            {[]code.Func{params, none}, answer{0, 0, api.ErrCode}},
		"parameters of another one":         {[]code.Func{plain(4), params}, answer{}},
		"a last one, then sizes":            {[]code.Func{open, none}, answer{0, 3, api.ErrCode}},
		"sizes, then a last one":            {[]code.Func{plain(1), none, open}, answer{1, 0, api.ErrSize}},
		"a last one of another one":         {[]code.Func{plain(1), open, none}, answer{1, 3, api.ErrCode}},
		"all is well":                       {[]code.Func{plain(4), params, plain(9)}, answer{}},
		"an instruction ahead of the last":  {[]code.Func{{Regs: 1, Code: lines("new 1\ndone")}}, answer{0, 0, api.ErrCode}},
		"behind one that ends all the same": {[]code.Func{{Regs: 1, Code: lines("return 0\nnew 1\nreturn 0")}}, answer{0, 1, api.ErrCode}},
	} {
		asks(t, what, code.Module{Funcs: c.l}, c.want)
	}
}

func TestAFunctionWithoutRegisters(t *testing.T) { // P11.1: Regs may be 0; then no register is there
	asks(t, "jump", code.Module{Funcs: []code.Func{{Code: lines("done\njump 0")}}}, answer{})
	for o := range code.Ops {
		f := code.Func{Consts: make([]value.Value, 1), Code: []code.Instr{{Op: o, B: 1}, {Op: code.Jump}}}
		if o == code.Const {
			f.Code[0].B = 0
		}
		want := answer{0, 0, api.ErrCode}
		if o == code.Jump || o == code.Back || o == code.Done {
			want = answer{}
		}
		asks(t, f.Code[0].String(), code.Module{Funcs: []code.Func{f, holding()}}, want)
	}
}

func TestAsGreatAsMayBe(t *testing.T) { // P11.1: the limits, all at once
	f := code.Func{Params: 40, Held: slices.Repeat([]int{99}, 60), Regs: 100, Consts: make([]value.Value, 5000)}
	for n := range api.MaxCode - 1 {
		f.Code = append(f.Code, []code.Instr{instr("close 99 99"), instr("call 99 0 99"), instr("const 99 4999"), instr("try 99 1999"), instr("unless 99 1999"), instr("less 99 99 99")}[n%6])
	}
	f.Code = append(f.Code, instr("jump 1999"))
	own := f
	own.Params, own.Held = 0, nil
	l := append([]code.Func{own}, slices.Repeat([]code.Func{f}, api.MaxFuncs-1)...)
	asks(t, "all", code.Module{Funcs: l}, answer{})
	last := &l[api.MaxFuncs-1]
	last.Code = slices.Clone(last.Code)
	last.Code[api.MaxCode-1].A = 2000
	asks(t, "all, but for the last instruction", code.Module{Funcs: l}, answer{99, 1999, api.ErrCode})
	last.Held = append(slices.Clone(last.Held), 99)
	asks(t, "all, but for the last function", code.Module{Funcs: l}, answer{99, 0, api.ErrSize})
	last.Held[60] = 100
	asks(t, "all, but for what that holds", code.Module{Funcs: l}, answer{0, 0, api.ErrCode})
}

func TestLongListsEnd(t *testing.T) { // P1: however often a function is closed that holds far too much
	f := code.Func{Regs: 100, Code: append(slices.Repeat(lines("close 99 99"), api.MaxCode-1), instr("jump 0"))}
	l := slices.Repeat([]code.Func{f}, api.MaxFuncs)
	l[99].Held = make([]int, 1_000_000)
	asks(t, "all are there", code.Module{Funcs: l}, answer{99, 0, api.ErrSize})
	l[99].Held[999_999] = 100
	asks(t, "the last isn't there", code.Module{Funcs: l}, answer{0, 0, api.ErrCode})
	l[99].Held[999_999] = -1
	asks(t, "the last is no register", code.Module{Funcs: l}, answer{0, 0, api.ErrCode})
}
