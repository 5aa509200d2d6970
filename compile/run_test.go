package compile

import (
	"errors"
	"fmt"
	"slices"
	"strconv"
	"testing"

	"paling/api"
	"paling/code"
	"paling/parse"
	"paling/ref"
	"paling/scope"
	"paling/tree"
	"paling/value"
)

// world is what instructions and trees do things in: records, closures, fuel. It tells all that is done, in order.
type world struct {
	things []thing
	told   []string
	fuel   int
	deep   int
}

// thing is a record, or a closure: what it does.
type thing struct {
	fields map[value.Value]value.Value
	do     func(args []value.Value) (value.Value, error)
}

// thrown is an error of the language.
type thrown struct{ v value.Value }

func (thrown) Error() string { return "thrown" }

var errFuel = errors.New("no fuel")

func text(s string) error { return thrown{value.Words(s)} }

func (w *world) name(v value.Value) string {
	return v.String(func(r ref.Ref) string { return fmt.Sprintf("#%d", r) })
}

func (w *world) tell(what string, l ...value.Value) {
	for _, v := range l {
		what += " " + w.name(v)
	}
	w.told = append(w.told, what)
}

func (w *world) put(t thing) value.Value {
	w.things = append(w.things, t)
	v := value.Object(ref.Ref(len(w.things)))
	w.tell("new", v)
	return v
}

func (w *world) record() value.Value { return w.put(thing{fields: map[value.Value]value.Value{}}) }

// thing: nothing of what is none.
func (w *world) thing(v value.Value) thing {
	if v.Kind != value.Obj {
		return thing{}
	}
	return w.things[v.Ref()-1]
}

func (w *world) get(x, k value.Value) (value.Value, error) {
	w.tell("get", x, k)
	l := w.thing(x).fields
	if l == nil || !k.Key() {
		return value.Value{}, text("kind")
	}
	return l[k], nil
}

func (w *world) set(x, k, v value.Value) error {
	w.tell("put", x, k, v)
	l := w.thing(x).fields
	if l == nil || !k.Key() {
		return text("kind")
	}
	l[k] = v
	if v.Kind == value.Nil {
		delete(l, k)
	}
	return nil
}

// burn: one of the fuel.
func (w *world) burn() error {
	if w.fuel == 0 {
		return errFuel
	}
	w.fuel--
	return nil
}

func (w *world) call(f value.Value, args []value.Value) (value.Value, error) {
	w.tell("call", append([]value.Value{f}, args...)...)
	if f.Kind == value.Prim {
		return w.word(f.N, args)
	}
	do := w.thing(f).do
	if do == nil {
		return value.Value{}, text("kind")
	}
	if w.deep == api.MaxFrames {
		return value.Value{}, text("deep")
	}
	if err := w.burn(); err != nil {
		return value.Value{}, err
	}
	w.deep++
	v, err := do(slices.Clone(args))
	w.deep--
	return v, err
}

// word: some of the language's, such as they are without membranes.
func (w *world) word(n int64, args []value.Value) (value.Value, error) {
	var a value.Value
	if len(args) > 0 {
		a = args[0]
	}
	t := w.thing(a)
	switch {
	case n == 0 && a.Kind == value.Text:
		return value.Number(int64(len(a.S))), nil
	case n == 0 && t.fields != nil:
		return value.Number(int64(len(t.fields))), nil
	case n == 4:
		kinds := []string{"nil", "bool", "int", "text", "function", "record"}
		if t.do != nil {
			return value.Words("function"), nil
		}
		return value.Words(kinds[a.Kind]), nil
	case n == 5 && a.Kind == value.Int:
		return value.Words(strconv.FormatInt(a.N, 10)), nil
	}
	return value.Value{}, text("kind")
}

// sign: what a sign of those two answers.
func (w *world) sign(op tree.Op, a, b value.Value) (value.Value, error) {
	numbers, texts := a.Kind == value.Int && b.Kind == value.Int, a.Kind == value.Text && b.Kind == value.Text
	switch {
	case op == tree.Equal:
		return value.Truth(a == b), nil
	case op == tree.Unlike:
		return value.Truth(a != b), nil
	case op == tree.Add && numbers:
		return value.Number(a.N + b.N), nil
	case op == tree.Add && texts && len(a.S)+len(b.S) > api.MaxText:
		return value.Value{}, text("long")
	case op == tree.Add && texts:
		return value.Words(a.S + b.S), nil
	case op == tree.Sub && numbers:
		return value.Number(a.N - b.N), nil
	case op == tree.Mul && numbers:
		return value.Number(a.N * b.N), nil
	case op == tree.Less && numbers:
		return value.Truth(a.N < b.N), nil
	case op == tree.Less && texts:
		return value.Truth(a.S < b.S), nil
	}
	return value.Value{}, text("kind")
}

func (w *world) not(a value.Value) value.Value { return value.Truth(!a.True()) }

func (w *world) minus(a value.Value) (value.Value, error) {
	return w.sign(tree.Sub, value.Number(0), a)
}

// run does a function's instructions, as chapter 9 tells of them.
func (w *world) run(m code.Module, n int, args, held []value.Value) (value.Value, error) {
	f := m.Funcs[n]
	r := make([]value.Value, f.Regs)
	copy(r[:f.Params], args)
	copy(r[f.Params:], held)
	var handlers []code.Instr
	for pc := 0; ; {
		x := f.Code[pc]
		pc++
		var err error
		switch x.Op {
		case code.Jump:
			pc = x.A
		case code.Back:
			pc = x.A
			err = w.burn()
		case code.Unless:
			if !r[x.A].True() {
				pc = x.B
			}
		case code.Return:
			return r[x.A], nil
		case code.Throw:
			err = thrown{r[x.A]}
		case code.Try:
			handlers = append(handlers, x)
		case code.Done:
			handlers = handlers[:len(handlers)-1]
		default:
			err = w.step(m, f, r, x)
		}
		var t thrown
		if errors.As(err, &t) && len(handlers) > 0 {
			h := handlers[len(handlers)-1]
			handlers = handlers[:len(handlers)-1]
			r[h.A], pc = t.v, h.B
		} else if err != nil {
			return value.Value{}, err
		}
	}
}

// signs are those that instructions stand for.
var signs = map[code.Op]tree.Op{code.Add: tree.Add, code.Sub: tree.Sub, code.Mul: tree.Mul, code.Equal: tree.Equal, code.Unlike: tree.Unlike, code.Less: tree.Less}

// step does an instruction behind which the next one comes.
func (w *world) step(m code.Module, f code.Func, r []value.Value, x code.Instr) error {
	var v value.Value
	var err error
	switch x.Op {
	case code.Const:
		v = f.Consts[x.B]
	case code.Move:
		v = r[x.B]
	case code.New:
		v = w.record()
	case code.Get:
		v, err = w.get(r[x.B], r[x.C])
	case code.Put:
		return w.set(r[x.A], r[x.B], r[x.C])
	case code.Close:
		var held []value.Value
		for _, n := range m.Funcs[x.B].Held {
			held = append(held, r[n])
		}
		v = w.put(thing{do: func(args []value.Value) (value.Value, error) { return w.run(m, x.B, args, held) }})
	case code.Call:
		v, err = w.call(r[x.B], r[x.B+1:x.B+1+x.C])
	case code.Minus:
		v, err = w.minus(r[x.B])
	case code.Not:
		v = w.not(r[x.B])
	default:
		v, err = w.sign(signs[x.Op], r[x.B], r[x.C])
	}
	if err == nil {
		r[x.A] = v
	}
	return err
}

// named is a name, its value, and the names that were seen ahead of it. A nil one is none.
type named struct {
	name string
	v    *value.Value
	up   *named
}

func (n *named) and(name string, v value.Value) *named { return &named{name, &v, n} }

func (n *named) find(name string) *value.Value {
	for ; n != nil; n = n.up {
		if n.name == name {
			return n.v
		}
	}
	return nil
}

// then: the same names, each with a value of its own, which is what it was then.
func (n *named) then() *named {
	if n == nil {
		return nil
	}
	return n.up.then().and(n.name, *n.v)
}

// block does statements, as chapter 17 tells of them: what they return, nil if nothing is returned.
func (w *world) block(l []tree.Stmt, names *named) (*value.Value, error) {
	for _, s := range l {
		if s.Kind == tree.Let {
			v, err := w.expr(s.Exprs[0], names)
			if err != nil {
				return nil, err
			}
			names = names.and(s.Name, v)
			continue
		}
		if v, err := w.stmt(s, names); v != nil || err != nil {
			return v, err
		}
	}
	return nil, nil
}

func (w *world) stmt(s tree.Stmt, names *named) (*value.Value, error) {
	if s.Kind == tree.Try {
		v, err := w.block(s.Body, names)
		var t thrown
		if errors.As(err, &t) {
			return w.block(s.Else, names.and(s.Name, t.v))
		}
		return v, err
	}
	for {
		l, err := w.exprs(s.Exprs, names)
		if err != nil {
			return nil, err
		}
		switch s.Kind {
		case tree.Assign:
			*names.find(s.Name) = l[0]
		case tree.Put:
			return nil, w.set(l[0], l[1], l[2])
		case tree.Return:
			return &l[0], nil
		case tree.Throw:
			return nil, thrown{l[0]}
		case tree.If:
			if l[0].True() {
				return w.block(s.Body, names)
			}
			return w.block(s.Else, names)
		}
		if s.Kind != tree.While || !l[0].True() {
			return nil, nil
		}
		if v, err := w.block(s.Body, names); v != nil || err != nil {
			return v, err
		}
		if err := w.burn(); err != nil {
			return nil, err
		}
	}
}

func (w *world) exprs(l []tree.Expr, names *named) ([]value.Value, error) {
	var out []value.Value
	for _, e := range l {
		v, err := w.expr(e, names)
		if err != nil {
			return nil, err
		}
		out = append(out, v)
	}
	return out, nil
}

func (w *world) expr(e tree.Expr, names *named) (value.Value, error) {
	switch e.Op {
	case tree.Nil:
		return value.Value{}, nil
	case tree.False, tree.True:
		return value.Truth(e.Op == tree.True), nil
	case tree.Number:
		return value.Number(e.Num), nil
	case tree.Text:
		return value.Words(e.Text), nil
	case tree.Name:
		if v := names.find(e.Text); v != nil {
			return *v, nil
		}
		return value.Word(int64(scope.Word(e.Text))), nil
	case tree.Record:
		return w.fields(e.Parts, names)
	case tree.Fn:
		return w.closure(e, names.then()), nil
	}
	l, err := w.exprs(e.Parts, names)
	if err != nil {
		return value.Value{}, err
	}
	switch e.Op {
	case tree.Minus:
		return w.minus(l[0])
	case tree.Not:
		return w.not(l[0]), nil
	case tree.Field:
		return w.get(l[0], l[1])
	case tree.Call:
		return w.call(l[0], l[1:])
	}
	return w.sign(e.Op, l[0], l[1])
}

func (w *world) fields(l []tree.Expr, names *named) (value.Value, error) {
	v := w.record()
	for i := 0; i < len(l); i += 2 {
		kv, err := w.exprs(l[i:i+2], names)
		if err == nil {
			err = w.set(v, kv[0], kv[1])
		}
		if err != nil {
			return value.Value{}, err
		}
	}
	return v, nil
}

func (w *world) closure(e tree.Expr, names *named) value.Value {
	return w.put(thing{do: func(args []value.Value) (value.Value, error) {
		// What is set in a call is that call's own: and what is held can't be set.
		own := names
		for i, p := range e.Params {
			var v value.Value
			if i < len(args) {
				v = args[i]
			}
			own = own.and(p, v)
		}
		v, err := w.block(e.Body, own)
		if v == nil {
			v = &value.Value{}
		}
		return *v, err
	}})
}

// ended says how something ended, and all that was done.
func (w *world) ended(v value.Value, err error) string {
	out := ""
	for _, s := range w.told {
		out += s + "\n"
	}
	out += "fuel left: " + strconv.Itoa(w.fuel) + "\n"
	var t thrown
	if errors.As(err, &t) {
		return out + "throws " + w.name(t.v)
	}
	if err != nil {
		return out + err.Error()
	}
	return out + w.name(v)
}

// byCode, byTree: a module, started with so much fuel.
func byCode(m code.Module, fuel int) string {
	w := &world{fuel: fuel, deep: 1}
	return w.ended(w.run(m, 0, nil, nil))
}

func byTree(l []tree.Stmt, fuel int) string {
	w := &world{fuel: fuel, deep: 1}
	v, err := w.block(l, nil)
	if v == nil {
		v = &value.Value{}
	}
	return w.ended(*v, err)
}

// does: a module that goes well does what its tree means.
func does(t *testing.T, l []tree.Stmt, fuel int) string {
	t.Helper()
	m := made(t, l)
	got, want := byCode(m, fuel), byTree(l, fuel)
	if got != want {
		for _, f := range m.Funcs {
			t.Log(f.Print(), f.Held, f.Consts)
		}
		t.Fatalf("%s\ndoes:\n%s\nnot:\n%s", tree.Print(l), got, want)
	}
	return got
}

// answers: a module answers that, by its instructions as by its tree, be there as little fuel as may be.
func answers(t *testing.T, s, want string) {
	t.Helper()
	l, at, e := parse.Parse(s)
	if e != api.OK {
		t.Fatalf("%q: place %d, error %d", s, at, e)
	}
	for fuel := range 12 {
		does(t, l, fuel)
	}
	w := &world{fuel: 1000, deep: 1}
	v, err := w.run(read(t, s), 0, nil, nil)
	got := w.name(v)
	var thrown thrown
	if errors.As(err, &thrown) {
		got = "throws " + w.name(thrown.v)
	} else if err != nil {
		got = err.Error()
	}
	if got != want {
		t.Errorf("%q: %s, not %s", s, got, want)
	}
	does(t, l, 1000)
}
