package valid

import (
	"math"
	"math/rand"
	"reflect"
	"slices"
	"strconv"
	"strings"
	"testing"

	"paling/api"
	"paling/code"
	"paling/compile"
	"paling/value"
)

// The calls below tell what Check does from the chapter's words, register by register.

// parts: what A, B, C of each op are: r a register, c a constant, f a function, p a place, n how many registers more than B; - nothing.
var parts = []string{"rc-", "rr-", "r--", "rrr", "rrr", "rf-", "rrn", "rr-", "rr-", "rrr", "rrr", "rrr", "rrr", "rrr", "rrr", "p--", "p--", "rp-", "r--", "r--", "rp-", "---"}

// ending are the ops of which one is the last.
var ending = []code.Op{code.Jump, code.Back, code.Return, code.Throw}

func plainly(m code.Module) answer {
	if len(m.Funcs) == 0 || len(m.Funcs) > 100 {
		return answer{e: api.ErrSize}
	}
	for n, f := range m.Funcs {
		taken := len(f.Held)
		for p := 0; p < f.Params && taken <= f.Regs; p++ {
			taken++
		}
		if f.Params < 0 || f.Regs < 0 || f.Regs > 100 || taken > f.Regs || len(f.Code) == 0 || len(f.Code) > 2000 {
			return answer{n, 0, api.ErrSize}
		}
		if n == 0 && taken > 0 {
			return answer{0, 0, api.ErrCode}
		}
		for at, x := range f.Code {
			last := at == len(f.Code)-1
			if int(x.Op) >= len(parts) || last && !slices.Contains(ending, x.Op) || !partsFit(m, f, x) {
				return answer{n, at, api.ErrCode}
			}
		}
	}
	return answer{}
}

func partsFit(m code.Module, f code.Func, x code.Instr) bool {
	numbers := []int{x.A, x.B, x.C}
	for i, p := range parts[x.Op] {
		if !partFits(m, f, p, numbers[i], x.B) {
			return false
		}
	}
	return true
}

func partFits(m code.Module, f code.Func, part rune, n, b int) bool {
	switch part {
	case 'r':
		return n >= 0 && n < f.Regs
	case 'c':
		return n >= 0 && n < len(f.Consts)
	case 'p':
		return n >= 0 && n < len(f.Code)
	case 'f':
		if n <= 0 || n >= len(m.Funcs) {
			return false
		}
		for _, r := range m.Funcs[n].Held {
			if !partFits(m, f, 'r', r, 0) {
				return false
			}
		}
	case 'n':
		// One by one, so that nothing goes round: B is a register, for it comes ahead.
		for i := 1; i <= n; i++ {
			if b+i >= f.Regs {
				return false
			}
		}
		return n >= 0
	}
	return true
}

// edges are numbers that an instruction may have.
var edges = []int{0, 1, 2, 3, 4, 5, 6, 7, 8, -1, -2, -4, -5, 99, 100, 101, 2000, 1 << 32, 1<<32 + 1, -1 << 32, math.MaxInt64, math.MaxInt64 - 1, math.MinInt64, math.MinInt64 + 1}

func TestEachInstructionIsLookedAt(t *testing.T) { // P11.1: all ops, all edges, in the middle and at the end
	for op := range int(code.Ops) + 3 {
		for _, a := range edges {
			for _, b := range edges {
				for _, c := range edges {
					x := code.Instr{Op: code.Op(op), A: a, B: b, C: c}
					for _, at := range []int{2, 6} {
						m := around(at, x)
						if got, want := check(m), plainly(m); got != want {
							t.Fatalf("op %d, %s at %d: %v, not %v", op, x, at, got, want)
						}
					}
				}
			}
		}
	}
}

// some: a number, mostly one below n, now and then just beside that, or at an edge.
func some(r *rand.Rand, n int) int {
	switch r.Intn(40) {
	case 0:
		return -1
	case 1:
		return n
	case 2:
		return edges[r.Intn(len(edges))]
	}
	return r.Intn(max(n, 1))
}

// someFunc: a function, most of whose parts may be.
func someFunc(r *rand.Rand, own bool, funcs int) code.Func {
	f := code.Func{Regs: r.Intn(6) + 1, Consts: make([]value.Value, r.Intn(3)+1), Code: make([]code.Instr, r.Intn(8))}
	if !own || r.Intn(10) == 0 {
		f.Params, f.Held = r.Intn(3), make([]int, r.Intn(3))
		f.Regs += f.Params + len(f.Held)
	}
	for i := range f.Held {
		f.Held[i] = r.Intn(3)
	}
	if r.Intn(15) == 0 {
		f.Params = some(r, 5)
	}
	if r.Intn(15) == 0 {
		f.Regs = some(r, 101)
	}
	for at := range f.Code {
		x := &f.Code[at]
		x.Op = code.Op(r.Intn(int(code.Ops)))
		if at == len(f.Code)-1 && r.Intn(10) > 0 {
			x.Op = ending[r.Intn(len(ending))]
		}
		limit := map[byte]int{'r': f.Regs, 'c': len(f.Consts), 'f': funcs, 'p': len(f.Code), 'n': 2, '-': 9999}
		for i, n := range []*int{&x.A, &x.B, &x.C} {
			*n = some(r, limit[parts[x.Op][i]])
		}
		if r.Intn(60) == 0 {
			x.Op = code.Op(r.Intn(256))
		}
	}
	return f
}

func TestManyModules(t *testing.T) { // P11.1, R6: whatever was asked before
	r := rand.New(rand.NewSource(11))
	told := map[api.Errno]int{}
	var asked []code.Module
	var first []answer
	for range 300000 {
		m := code.Module{Funcs: make([]code.Func, r.Intn(4))}
		for n := range m.Funcs {
			m.Funcs[n] = someFunc(r, n == 0, len(m.Funcs))
		}
		got, want := check(m), plainly(m)
		if got != want {
			t.Fatalf("%+v: %v, not %v", m, got, want)
		}
		told[got.e]++
		if len(asked) < 20000 {
			asked, first = append(asked, m), append(first, got)
		}
	}
	if len(told) != 3 || told[api.OK] < 20000 || told[api.ErrSize] < 20000 || told[api.ErrCode] < 20000 {
		t.Errorf("how often each is told: %v", told)
	}
	for i := len(asked) - 1; i >= 0; i-- {
		if again := check(copied(asked[i])); again != first[i] {
			t.Fatalf("%+v: first %v, then %v", asked[i], first[i], again)
		}
	}
}

// copied: the same module in other lists, behind each of which a mark stands in spare room.
func copied(m code.Module) code.Module {
	mark := code.Func{Params: -7, Regs: 777, Held: []int{-1}, Code: lines("? 1 2 3")}
	out := code.Module{Funcs: append(slices.Clone(m.Funcs), mark)[:len(m.Funcs)]}
	for n := range out.Funcs {
		f := &out.Funcs[n]
		f.Held = append(slices.Clone(f.Held), -7)[:len(f.Held)]
		f.Consts = append(slices.Clone(f.Consts), value.Words("mark"))[:len(f.Consts)]
		f.Code = append(slices.Clone(f.Code), code.Instr{Op: 77, A: -1})[:len(f.Code)]
	}
	return out
}

// whole: a module with all that lies in the room behind its lists.
func whole(m code.Module) code.Module {
	out := code.Module{Funcs: slices.Clone(m.Funcs[:cap(m.Funcs)])}
	for n := range out.Funcs {
		f := &out.Funcs[n]
		f.Held, f.Consts, f.Code = slices.Clone(f.Held[:cap(f.Held)]), slices.Clone(f.Consts[:cap(f.Consts)]), slices.Clone(f.Code[:cap(f.Code)])
	}
	return out
}

func TestNothingIsChanged(t *testing.T) { // R5: spare room included
	r := rand.New(rand.NewSource(12))
	for range 5000 {
		m := code.Module{Funcs: make([]code.Func, r.Intn(4))}
		for n := range m.Funcs {
			m.Funcs[n] = someFunc(r, n == 0, len(m.Funcs))
		}
		m = copied(m)
		was := whole(m)
		check(m)
		if now := whole(m); !reflect.DeepEqual(now, was) {
			t.Fatalf("%+v, not %+v", now, was)
		}
	}
}

func TestNothingIsKept(t *testing.T) { // R5, R6: a module that has changed is looked at anew
	m := around(3, instr("close 0 1"))
	asks(t, "at first", m, answer{})
	m.Funcs[1].Held[1] = 5
	asks(t, "it holds what isn't there", m, answer{0, 3, api.ErrCode})
	m.Funcs[1].Held[1] = 4
	asks(t, "as it was", m, answer{})
	m.Funcs[3].Code[0] = instr("new 9")
	asks(t, "an instruction", m, answer{3, 0, api.ErrCode})
	m.Funcs[3].Code[0] = instr("new 0")
	asks(t, "as it was", m, answer{})
}

func TestEmptyListsMeanNone(t *testing.T) { // R4
	for _, f := range []code.Func{{Code: lines("jump 0")}, {Held: []int{}, Consts: []value.Value{}, Code: lines("jump 0")}} {
		asks(t, "empty lists", code.Module{Funcs: []code.Func{f, f}}, answer{})
		f.Regs, f.Code = 1, lines("const 0 0\njump 0")
		asks(t, "no constant", code.Module{Funcs: []code.Func{f}}, answer{0, 0, api.ErrCode})
		f.Code = []code.Instr{}
		asks(t, "no instructions", code.Module{Funcs: []code.Func{f}}, answer{0, 0, api.ErrSize})
	}
}

func TestConstantsAreNotLookedInto(t *testing.T) { // P11.1: it is asked whether they are there, not which they are
	m := around(1, instr("const 0 1"))
	for k := range value.Kinds + 1 {
		m.Funcs[0].Consts[1] = value.Value{Kind: k, N: -5, S: strings.Repeat("a", 5000)}
		asks(t, "kind "+strconv.Itoa(int(k)), m, answer{})
	}
	// One that nobody names needs no place among so many.
	m.Funcs[0].Consts = make([]value.Value, 100000)
	m.Funcs[0].Code[1].B = 99999
	asks(t, "many", m, answer{})
	m.Funcs[0].Code[1].B = 100000
	asks(t, "behind many", m, answer{0, 1, api.ErrCode})
}

// writer makes modules' texts: names are a number each, from which on they are seen.
type writer struct {
	*rand.Rand
	made int
}

func (w *writer) expr(deep int, seen []string) string {
	one := func() string { return w.expr(deep-1, seen) }
	if deep == 0 || w.Intn(3) == 0 {
		return append([]string{"7", "nil", "true", `"a"`, "len", "{}"}, seen...)[w.Intn(6+len(seen))]
	}
	switch w.Intn(8) {
	case 0:
		return "-" + one()
	case 1:
		return "!(" + one() + ")"
	case 2:
		return "(" + one() + ")[" + one() + "]"
	case 3:
		return "{a: " + one() + ", [" + one() + "]: " + one() + "}"
	case 4:
		return "(" + one() + ")(" + strings.Join([]string{one(), one(), one()}[:1+w.Intn(3)], ", ") + ")"
	case 5, 6:
		p := w.name()
		return "(fn(" + p + ") { " + w.block(deep-1, []string{p}, append(slices.Clone(seen), p)) + "})"
	}
	return "(" + one() + " " + []string{"+", "-", "*", "==", "!=", "<"}[w.Intn(6)] + " " + one() + ")"
}

func (w *writer) name() string {
	w.made++
	return "n" + strconv.Itoa(w.made)
}

// block: statements; own are names that may be set, seen those that may be asked for.
func (w *writer) block(deep int, own, seen []string) string {
	own, seen = slices.Clone(own), slices.Clone(seen)
	out := ""
	for range w.Intn(6) {
		e := w.expr(deep, seen)
		within := func() string { return w.block(max(deep-1, 0), own, seen) }
		switch kind := w.Intn(9); {
		case kind == 0 && len(own) > 0:
			out += own[w.Intn(len(own))] + " = " + e + "; "
		case kind == 1:
			out += "(" + e + ").b = " + w.expr(deep, seen) + "; "
		case kind == 2 && deep > 0:
			out += "if " + e + " { " + within() + "} else { " + within() + "} "
		case kind == 3 && deep > 0:
			out += "while " + e + " { " + within() + "} "
		case kind == 4 && deep > 0:
			n := w.name()
			out += "try { " + within() + "} catch " + n + " { " + w.block(deep-1, append(slices.Clone(own), n), append(slices.Clone(seen), n)) + "} "
		case kind == 5:
			out += []string{"return ", "throw ", ""}[w.Intn(3)] + e + "; "
		default:
			n := w.name()
			own, seen = append(own, n), append(seen, n)
			out += "let " + n + " = " + e + "; "
		}
	}
	return out
}

func TestWhatIsCompiledMayBe(t *testing.T) { // P10.1: Check takes what compile makes
	w := &writer{Rand: rand.New(rand.NewSource(13))}
	used := map[code.Op]int{}
	went := 0
	for range 6000 {
		s := w.block(4, nil, nil)
		m, at, e := compile.Read(s)
		if e == api.ErrSize || e == api.ErrDeep {
			continue
		}
		if e != api.OK {
			t.Fatalf("%q: place %d, error %d", s, at, e)
		}
		went++
		if got := check(m); got != (answer{}) {
			t.Fatalf("%q: %v", s, got)
		}
		for _, f := range m.Funcs {
			for _, x := range f.Code {
				used[x.Op]++
			}
		}
	}
	if went < 5000 || len(used) != int(code.Ops) {
		t.Errorf("%d modules, ops %v", went, used)
	}
}

func TestTheGreatestThatAreCompiledMayBe(t *testing.T) { // P10.1: at the limits, and beyond them none is made
	for _, s := range []string{"", "1;", "fn() { };", "let % = {a: %, b: fn() { % - 1; }};", "if 1 { 2; } else { }", "while nil { len(1, 2, 3); }", "try { let % = 1; throw %; } catch % { % = %; }", "let % = 1; fn() { %; };", "let % = 1;", "{}.a = 2;", "-1;", "return 1;", "throw 1;"} {
		made := 0
		for _, many := range []int{0, 1, 2, 48, 49, 50, 96, 97, 98, 99, 100, 101, 331, 332, 333, 334, 497, 498, 499, 500, 501, 660, 700, 997, 998, 999, 1000, 1998, 1999, 2000, 2001} {
			text := strings.Builder{}
			for n := range many {
				text.WriteString(strings.ReplaceAll(s, "%", "n"+strconv.Itoa(n)))
			}
			if s == "" && many > 0 || text.Len() > api.MaxSource {
				break
			}
			for _, s := range []string{text.String(), "fn(a) { let b = a; " + text.String() + " };"} {
				m, _, e := compile.Read(s)
				if e != api.OK {
					continue
				}
				made++
				if got := check(m); got != (answer{}) {
					t.Fatalf("%q: %v", s, got)
				}
			}
		}
		if made < 2 {
			t.Errorf("of %q none was made", s)
		}
	}
}

func TestWhatIsCompiledAndChanged(t *testing.T) { // P11.1: a number, a list, an op of a whole module
	w := &writer{Rand: rand.New(rand.NewSource(14))}
	wrong, right := 0, 0
	for range 10000 {
		m, _, e := compile.Read(w.block(3, nil, nil))
		if e != api.OK {
			continue
		}
		m = copied(m)
		w.change(&m.Funcs[w.Intn(len(m.Funcs))])
		got, want := check(m), plainly(m)
		if got != want {
			t.Fatalf("%+v: %v, not %v", m, got, want)
		}
		if got.e == api.OK {
			right++
		} else {
			wrong++
		}
	}
	if wrong < 2500 || right < 1000 {
		t.Errorf("%d are wrong, %d are right", wrong, right)
	}
}

// change changes one thing of a function.
func (w *writer) change(f *code.Func) {
	x := &f.Code[w.Intn(len(f.Code))]
	switch w.Intn(9) {
	case 0:
		f.Params = some(w.Rand, 4)
	case 1:
		f.Regs = some(w.Rand, f.Regs+1)
	case 2:
		f.Held = append(f.Held, some(w.Rand, 5))
	case 3:
		f.Consts = f.Consts[:w.Intn(len(f.Consts)+1)]
	case 4:
		f.Code = f.Code[:w.Intn(len(f.Code)+1)]
	case 5:
		x.Op = code.Op(w.Intn(int(code.Ops) + 1))
	case 6:
		x.A = some(w.Rand, f.Regs+1)
	case 7:
		x.B = some(w.Rand, f.Regs+1)
	case 8:
		x.C = some(w.Rand, f.Regs+1)
	}
}
