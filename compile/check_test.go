package compile

import (
	"fmt"
	"testing"

	"paling/api"
	"paling/code"
	"paling/tree"
)

// unfit says what chapter 11 asks of a module and this one hasn't; and what more chapters 9 and 17 do: that jump goes forward, for it costs no fuel, and back goes back.
func unfit(m code.Module) error {
	if len(m.Funcs) < 1 || len(m.Funcs) > api.MaxFuncs {
		return fmt.Errorf("%d functions", len(m.Funcs))
	}
	for n, f := range m.Funcs {
		if f.Params < 0 || f.Regs < 0 || f.Regs > api.MaxRegs || f.Params+len(f.Held) > f.Regs || len(f.Code) < 1 || len(f.Code) > api.MaxCode {
			return fmt.Errorf("function %d: %d instructions, %d registers, of which %d parameters, %d held", n, len(f.Code), f.Regs, f.Params, len(f.Held))
		}
		if n == 0 && f.Params+len(f.Held) > 0 {
			return fmt.Errorf("the module's own function has %d parameters, %d held", f.Params, len(f.Held))
		}
		for at, x := range f.Code {
			if !fits(m, f, at, x) {
				return fmt.Errorf("function %d: %d: %s", n, at, x)
			}
		}
		if !f.Code[len(f.Code)-1].Op.Ends() {
			return fmt.Errorf("function %d comes to its end", n)
		}
	}
	return nil
}

// fits: may an instruction stand there?
func fits(m code.Module, f code.Func, at int, x code.Instr) bool {
	regs := func(l ...int) bool {
		for _, r := range l {
			if r < 0 || r >= f.Regs {
				return false
			}
		}
		return true
	}
	place := func(n int) bool { return n >= 0 && n < len(f.Code) }
	switch x.Op {
	case code.Const:
		return regs(x.A) && x.B >= 0 && x.B < len(f.Consts)
	case code.Move, code.Minus, code.Not:
		return regs(x.A, x.B)
	case code.New, code.Return, code.Throw:
		return regs(x.A)
	case code.Get, code.Put, code.Add, code.Sub, code.Mul, code.Equal, code.Unlike, code.Less:
		return regs(x.A, x.B, x.C)
	case code.Close:
		return regs(x.A) && x.B > 0 && x.B < len(m.Funcs) && regs(m.Funcs[x.B].Held...)
	case code.Call:
		return x.C >= 0 && regs(x.A, x.B, x.B+x.C)
	case code.Jump:
		return place(x.A) && x.A > at
	case code.Back:
		return place(x.A) && x.A <= at
	case code.Unless:
		return regs(x.A) && place(x.B) && x.B > at
	case code.Try:
		return regs(x.A) && place(x.B) && x.B > at
	case code.Done:
		return true
	}
	return false
}

// made: the module of statements, which goes well, and is fit.
func made(t *testing.T, l []tree.Stmt) code.Module {
	t.Helper()
	m, at, e := Module(l)
	if e != api.OK || at != 0 {
		t.Fatalf("%s: place %d, error %d", tree.Print(l), at, e)
	}
	if err := unfit(m); err != nil {
		t.Fatalf("%s: %v", tree.Print(l), err)
	}
	return m
}

// read: the module of a text, which goes well, and is fit.
func read(t *testing.T, s string) code.Module {
	t.Helper()
	m, at, e := Read(s)
	if e != api.OK || at != 0 {
		t.Fatalf("%q: place %d, error %d", s, at, e)
	}
	if err := unfit(m); err != nil {
		t.Fatalf("%q: %v", s, err)
	}
	return m
}
