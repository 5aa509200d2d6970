package arena

import (
	"cmp"
	"maps"
	"math"
	"reflect"
	"slices"
	"strings"
	"testing"

	"paling/api"
	"paling/ref"
	"paling/value"
)

// put: one more of that owner, which must have room.
func put(t *testing.T, a *Arena, o Object) ref.Ref {
	t.Helper()
	r, e := a.Put(o)
	if e != api.OK || r == ref.None {
		t.Fatalf("Put: Ref %d, error %d", r, e)
	}
	return r
}

// many: what Many must answer.
func many(t *testing.T, a *Arena, owner, many, more int) {
	t.Helper()
	if x, y := a.Many(owner); x != many || y != more {
		t.Errorf("Many(%d) is %d, %d, not %d, %d", owner, x, y, many, more)
	}
}

// refused: Put must answer that error, and change nothing.
func refused(t *testing.T, a *Arena, o Object, want api.Errno) {
	t.Helper()
	all := a.All()
	if r, e := a.Put(o); e != want || r != ref.None {
		t.Errorf("Put of owner %d: Ref %d, error %d, not %d", o.Owner, r, e, want)
	}
	if now := a.All(); !slices.Equal(now, all) {
		t.Errorf("a Put that was refused: %d were there, now %d", all, now)
	}
}

// noOwners: numbers that are no owner's, where there are so many.
func noOwners(owners int) []int {
	return []int{-1, -2, owners, owners + 1, math.MaxInt32, math.MinInt32, math.MaxUint32 + 1, math.MaxInt, math.MinInt}
}

func TestKindsAreNumberedInOrder(t *testing.T) { // chapter 3, Types
	for i, k := range []Kind{Record, Closure, Brand, Sealer, Unsealer, Box, Proxy, Revoker, Kinds} {
		if int(k) != i {
			t.Errorf("kind %d has the number %d", i, k)
		}
	}
}

func TestNewHasNothing(t *testing.T) { // P3.1, P3.2
	a := New()
	if a.Owners() != 0 || len(a.All()) != 0 {
		t.Errorf("%d owners, %d objects", a.Owners(), len(a.All()))
	}
	for _, n := range append(noOwners(0), 1) {
		many(t, a, n, 0, 0)
		refused(t, a, Object{Owner: n}, api.ErrOwner)
	}
	for _, r := range []ref.Ref{ref.None, 1, ref.Of(0, 1), ref.Of(1, 1), math.MaxUint64} {
		if a.Get(r) != nil {
			t.Errorf("object %d is there", r)
		}
		a.Drop(r)
	}
}

func TestOwnersAreNumberedFromNought(t *testing.T) { // P3.1
	a := New()
	for i, c := range []struct{ quota, more int }{
		{3, 3}, {0, 0}, {-1, 0}, {1, 1}, {-5, 0}, {math.MinInt, 0}, {api.MaxQuota, api.MaxQuota}, {math.MaxUint32 + 1, math.MaxUint32 + 1}, {math.MaxInt, math.MaxInt}, {3, 3},
	} {
		if n := a.Owner(c.quota); n != i {
			t.Errorf("owner %d has the number %d", i, n)
		}
		if n := a.Owners(); n != i+1 {
			t.Errorf("behind owner %d there are %d", i, n)
		}
		many(t, a, i, 0, c.more)
	}
	many(t, a, 0, 0, 3)
	for _, n := range noOwners(a.Owners()) {
		many(t, a, n, 0, 0)
	}
}

func TestManyGoesUpAndDown(t *testing.T) { // P3.1
	a := New()
	a.Owner(3)
	a.Owner(math.MaxInt)
	r := put(t, a, Object{})
	many(t, a, 0, 1, 2)
	q := put(t, a, Object{})
	put(t, a, Object{Owner: 1})
	many(t, a, 0, 2, 1)
	many(t, a, 1, 1, math.MaxInt-1)
	a.Drop(r)
	many(t, a, 0, 1, 2)
	a.Drop(r)
	a.Drop(ref.None)
	a.Drop(ref.Of(q.Slot(), q.Uses()+1))
	many(t, a, 0, 1, 2)
	a.Drop(q)
	many(t, a, 0, 0, 3)
	many(t, a, 1, 1, math.MaxInt-1)
}

func TestPutUntilFull(t *testing.T) { // P3.2, P7
	a := New()
	quotas := []int{2, 0, 5, -3, 1}
	for _, q := range quotas {
		a.Owner(q)
	}
	for n, q := range quotas {
		for i := range max(q, 0) {
			put(t, a, Object{Owner: n})
			many(t, a, n, i+1, q-i-1)
		}
		refused(t, a, Object{Owner: n}, api.ErrFull)
		refused(t, a, Object{Owner: n}, api.ErrFull)
		many(t, a, n, max(q, 0), 0)
		for later := n + 1; later < len(quotas); later++ {
			many(t, a, later, 0, max(quotas[later], 0))
		}
	}
	if l := a.All(); len(l) != 8 {
		t.Errorf("%d objects, not 8", len(l))
	}
	a.Owner(1)
	put(t, a, Object{Owner: 5})
	refused(t, a, Object{Owner: 5}, api.ErrFull)
}

func TestRoomIsTheOwnersOwn(t *testing.T) { // P3.2: what one drops is no room of another's
	a := New()
	a.Owner(1)
	a.Owner(1)
	r := put(t, a, Object{})
	q := put(t, a, Object{Owner: 1})
	a.Drop(r)
	refused(t, a, Object{Owner: 1}, api.ErrFull)
	put(t, a, Object{})
	refused(t, a, Object{}, api.ErrFull)
	a.Drop(r) // what isn't there any more makes no room
	refused(t, a, Object{}, api.ErrFull)
	a.Drop(q)
	put(t, a, Object{Owner: 1})
}

func TestPutOfNoOwner(t *testing.T) { // P3.2
	a := New()
	a.Owner(0)
	a.Owner(4)
	r := put(t, a, Object{Owner: 1})
	for _, n := range noOwners(2) {
		refused(t, a, Object{Owner: n}, api.ErrOwner)
	}
	refused(t, a, Object{Owner: 0}, api.ErrFull)
	many(t, a, 1, 1, 3)
	if a.Get(r) == nil || a.Owners() != 2 {
		t.Error("Puts that were refused changed something")
	}
}

// whole: an object with something in each of its parts.
func whole(kind Kind) Object {
	return Object{
		Kind: kind, Owner: 1, Frozen: true,
		Fields: map[value.Value]value.Value{value.Number(1): value.Words("a"), value.Words("b"): value.Object(9)},
		Module: 3, Func: 4, Held: []value.Value{value.Truth(true), value.Object(8)},
		Brand: 5, Content: value.Object(6), Membrane: -7, Target: math.MaxUint64, Deep: 2,
	}
}

func TestGetIsWhatWasPut(t *testing.T) { // P3.2
	a := New()
	a.Owner(1)
	a.Owner(100)
	put(t, a, Object{})
	var refs []ref.Ref
	for k := range Kinds + 2 { // kinds that aren't there are put as they are
		refs = append(refs, put(t, a, whole(k)))
	}
	for i, r := range refs {
		if o := a.Get(r); o == nil || !reflect.DeepEqual(*o, whole(Kind(i))) {
			t.Errorf("kind %d: %+v", i, o)
		}
	}
	r := put(t, a, Object{Owner: 1})
	if o := a.Get(r); o == nil || len(o.Fields) != 0 || len(o.Held) != 0 || o.Owner != 1 || o.Kind != Record {
		t.Errorf("an object without anything: %+v", o)
	}
}

func TestGetIsToBeChanged(t *testing.T) { // P3.2
	a := New()
	a.Owner(1000)
	r := put(t, a, Object{Fields: map[value.Value]value.Value{value.Number(1): value.Number(1)}})
	q := put(t, a, Object{})
	first := a.Get(r)
	for range 500 { // what was answered stays the object, however many come behind it
		put(t, a, Object{})
	}
	first.Frozen = true
	first.Fields[value.Number(2)] = value.Object(q)
	first.Held = append(first.Held, value.Words("x"))
	first.Target = q
	o := a.Get(r)
	if o != first || !o.Frozen || len(o.Fields) != 2 || o.Fields[value.Number(2)] != value.Object(q) || len(o.Held) != 1 || o.Target != q {
		t.Errorf("%+v", o)
	}
	if o := a.Get(q); o.Frozen || len(o.Fields) != 0 || len(o.Held) != 0 || o.Target != ref.None {
		t.Errorf("another one changed: %+v", o)
	}
}

func TestWhatIsPutTwiceIsTwo(t *testing.T) { // P3.2, R5
	a := New()
	a.Owner(5)
	held := make([]value.Value, 1, 4)
	spare := held[:2]
	o := Object{Fields: map[value.Value]value.Value{value.Number(1): value.Number(1)}, Held: held}
	r, q := put(t, a, o), put(t, a, o)
	p := put(t, a, *a.Get(r))
	x := a.Get(r)
	x.Fields[value.Number(1)] = value.Number(2)
	x.Fields[value.Words("new")] = value.Number(3)
	x.Held[0] = value.Number(4)
	x.Held = append(x.Held, value.Number(5))
	for _, other := range []*Object{&o, a.Get(q), a.Get(p)} {
		if len(other.Fields) != 1 || other.Fields[value.Number(1)] != value.Number(1) || len(other.Held) != 1 || other.Held[0] != (value.Value{}) {
			t.Errorf("a change of one is seen: %+v", other)
		}
	}
	if spare[1] != (value.Value{}) {
		t.Error("the spare room of what was handed in changed")
	}
}

func TestDroppedIsNotThere(t *testing.T) { // P3.2
	a := New()
	a.Owner(3)
	r := put(t, a, Object{Module: 1})
	q := put(t, a, Object{Module: 2})
	a.Drop(r)
	if a.Get(r) != nil || a.Get(q) == nil || a.Get(q).Module != 2 {
		t.Error("Drop of one")
	}
	if l := a.All(); !slices.Equal(l, []ref.Ref{q}) {
		t.Errorf("%d are there, not %d", l, q)
	}
	a.Drop(r)
	a.Drop(q)
	a.Drop(q)
	if a.Get(q) != nil || len(a.All()) != 0 {
		t.Error("Drop of both")
	}
	many(t, a, 0, 0, 3)
}

func TestRefsOfNothing(t *testing.T) { // P3.2
	a := New()
	a.Owner(10)
	r := put(t, a, Object{})
	old := put(t, a, Object{})
	a.Drop(old)
	none := []ref.Ref{ref.None, old, math.MaxUint64, ref.Of(math.MaxUint32, 1), ref.Of(math.MaxInt32+1, 1)}
	for _, known := range []ref.Ref{r, old} {
		none = append(none, ref.Of(known.Slot(), 0), ref.Of(known.Slot(), known.Uses()+1), ref.Of(known.Slot(), math.MaxUint32), ref.Of(known.Slot()+10, known.Uses()))
	}
	for _, x := range none {
		if o := a.Get(x); o != nil {
			t.Errorf("object %d is there", x)
		}
		a.Drop(x)
	}
	if l := a.All(); !slices.Equal(l, []ref.Ref{r}) || a.Get(r) == nil {
		t.Errorf("Drop of what isn't there: now %d are there", l)
	}
	many(t, a, 0, 1, 9)
}

func TestSlotsAreUsedAgain(t *testing.T) { // P3.2: a slot that isn't used, that is used once more now
	a := New()
	a.Owner(1)
	a.Owner(1)
	given := ref.Set{}
	slots := map[uint32]uint32{}
	for i := range 1000 {
		r := put(t, a, Object{Owner: i % 2, Module: i})
		if !given.Add(r) {
			t.Fatalf("%d was answered ahead", r)
		}
		slots[r.Slot()]++
		if r.Uses() != slots[r.Slot()] {
			t.Fatalf("slot %d was used %d times, %d is told", r.Slot(), slots[r.Slot()], r.Uses())
		}
		for g := range given {
			if o := a.Get(g); (o != nil) != (g == r) {
				t.Fatalf("%d was dropped, %d is there: %+v", g, r, o)
			}
		}
		a.Drop(r)
	}
	if len(given) != 1000 {
		t.Errorf("%d Refs of 1000 objects", len(given))
	}
	if len(slots) != 1 { // there was never more than one object at a time
		t.Errorf("%d slots were taken", len(slots))
	}
}

func TestAnOldPointerIsNotTheNewObject(t *testing.T) { // P3.2
	a := New()
	a.Owner(1)
	r := put(t, a, Object{Module: 1})
	old := a.Get(r)
	a.Drop(r)
	q := put(t, a, Object{Module: 2})
	old.Module, old.Frozen = 9, true
	if o := a.Get(q); o == old || o.Module != 2 || o.Frozen {
		t.Errorf("%+v", o)
	}
}

func TestAllIsBySlots(t *testing.T) { // P3.2
	a := New()
	a.Owner(100)
	a.Owner(100)
	var there []ref.Ref
	for i := range 60 {
		there = append(there, put(t, a, Object{Owner: i % 2}))
	}
	for _, i := range []int{50, 3, 59, 0, 20, 21, 22, 7} { // slots go in no order, and come back used once more
		a.Drop(there[i])
		there = slices.Delete(there, i, i+1)
		there = append(there, put(t, a, Object{}), put(t, a, Object{Owner: 1}))
		a.Drop(there[5])
		there = slices.Delete(there, 5, 6)
	}
	slices.SortFunc(there, func(x, y ref.Ref) int { return cmp.Compare(x.Slot(), y.Slot()) })
	all := a.All()
	if !slices.Equal(all, there) {
		t.Errorf("%d, not %d", all, there)
	}
	for i := 1; i < len(all); i++ {
		if all[i-1].Slot() >= all[i].Slot() {
			t.Errorf("slot %d ahead of %d", all[i-1].Slot(), all[i].Slot())
		}
	}
	clear(all) // the answer is new memory
	if !slices.Equal(a.All(), there) {
		t.Error("a change of an answer is seen in the next one")
	}
}

func TestArenasAreApart(t *testing.T) { // R6
	a, b := New(), New()
	a.Owner(1)
	r := put(t, a, Object{})
	if b.Owners() != 0 || b.Get(r) != nil || len(b.All()) != 0 {
		t.Error("what one arena has is seen in another")
	}
	b.Owner(5)
	b.Drop(r)
	if a.Get(r) == nil {
		t.Error("what is dropped from one arena goes from another")
	}
}

// told is what an arena must have, kept in the plainest way.
type told struct {
	quotas []int
	there  map[ref.Ref]Object
	given  ref.Set
}

// of: how many an owner has.
func (m told) of(owner int) int {
	n := 0
	for _, o := range m.there {
		if o.Owner == owner {
			n++
		}
	}
	return n
}

// check: an arena, held against what it must have.
func (m told) check(t *testing.T, a *Arena) {
	t.Helper()
	if a.Owners() != len(m.quotas) {
		t.Fatalf("%d owners, not %d", a.Owners(), len(m.quotas))
	}
	for n, q := range m.quotas {
		many(t, a, n, m.of(n), q-m.of(n))
	}
	for r := range m.given {
		want, ok := m.there[r]
		if got := a.Get(r); (got != nil) != ok || ok && !reflect.DeepEqual(*got, want) {
			t.Fatalf("object %d: %+v", r, got)
		}
	}
	want := slices.SortedFunc(maps.Keys(m.there), func(x, y ref.Ref) int { return cmp.Compare(x.Slot(), y.Slot()) })
	if got := a.All(); !slices.Equal(got, want) {
		t.Fatalf("%d are there, not %d", got, want)
	}
}

func TestManyStepsAgainstAPlainArena(t *testing.T) { // P3.1, P3.2
	seed := uint32(12345)
	next := func(n int) int { // the same numbers at every run
		seed = seed*1664525 + 1013904223
		return int(seed>>8) % n
	}
	a, m := New(), told{there: map[ref.Ref]Object{}, given: ref.Set{}}
	for step := range 3000 {
		switch k := next(10); {
		case k == 0 && len(m.quotas) < 6:
			q := next(9) - 2
			if n := a.Owner(q); n != len(m.quotas) {
				t.Fatalf("owner %d, not %d", n, len(m.quotas))
			}
			m.quotas = append(m.quotas, max(q, 0))
		case k < 6:
			o := Object{Owner: next(9) - 1, Module: step, Kind: Kind(next(int(Kinds)))}
			want := api.OK
			if o.Owner < 0 || o.Owner >= len(m.quotas) {
				want = api.ErrOwner
			} else if m.of(o.Owner) >= m.quotas[o.Owner] {
				want = api.ErrFull
			}
			r, e := a.Put(o)
			if e != want || (r == ref.None) != (e != api.OK) || r != ref.None && !m.given.Add(r) {
				t.Fatalf("Put: Ref %d, error %d, not %d", r, e, want)
			}
			if e == api.OK {
				m.there[r] = o
			}
		default:
			given := slices.Sorted(maps.Keys(m.given))
			if len(given) > 0 {
				r := given[next(len(given))]
				a.Drop(r)
				delete(m.there, r)
			}
		}
		if step%20 == 0 {
			m.check(t, a)
		}
	}
	m.check(t, a)
}

// rising: values, each below the next, by Kind, then N, then S.
func rising() []value.Value {
	return []value.Value{
		{},
		{S: "a"},
		{N: 1},
		value.Truth(false),
		value.Truth(true),
		value.Number(math.MinInt64),
		value.Number(math.MinInt64 + 1),
		value.Number(-10),
		value.Number(-9),
		value.Number(-1),
		value.Number(0),
		{Kind: value.Int, S: "z"},
		value.Number(1),
		value.Number(9),
		value.Number(10),
		value.Number(math.MaxUint32 + 1),
		value.Number(math.MaxInt64),
		{Kind: value.Text, N: -1, S: "z"},
		value.Words(""),
		value.Words("\x00"),
		value.Words("10"),
		value.Words("9"),
		value.Words("B"),
		value.Words("a"),
		value.Words("a\x00"),
		value.Words("aa"),
		value.Words("ab"),
		value.Words("b"),
		value.Words("\x7f"),
		value.Words("\x80"),
		value.Words("é"),
		value.Words("\uffff"),
		value.Words("\U00010000"),
		value.Words("\xff"),
		{Kind: value.Text, N: 1},
		value.Word(-1),
		value.Word(0),
		value.Object(math.MaxUint64),
		value.Object(ref.None),
		value.Object(1),
		{Kind: value.Kinds, N: math.MinInt64},
		{Kind: math.MaxUint8},
	}
}

func TestOrderByKindThenNumberThenText(t *testing.T) { // P3.3
	l := rising()
	for i, a := range l {
		for j, b := range l {
			if got, want := Order(a, b), cmp.Compare(i, j); cmp.Compare(got, 0) != want {
				t.Errorf("Order(%+v, %+v) is %d, the sign must be %d", a, b, got, want)
			}
		}
	}
	if Order(value.Words(strings.Repeat("ab", 50)), value.Words(strings.Repeat("ab", 49)+"ab")) != 0 {
		t.Error("two texts of the same bytes")
	}
}

// holds: what Holds must answer.
func holds(t *testing.T, o Object, want ...ref.Ref) {
	t.Helper()
	if got := o.Holds(); !slices.Equal(got, want) {
		t.Errorf("%+v holds %d, not %d", o, got, want)
	}
}

func TestHoldsOfEachPart(t *testing.T) { // P3.3
	type fields = map[value.Value]value.Value
	holds(t, Object{})
	holds(t, Object{Fields: fields{value.Number(1): value.Object(2)}}, 2)
	holds(t, Object{Held: []value.Value{value.Object(3)}}, 3)
	holds(t, Object{Brand: 4}, 4)
	holds(t, Object{Content: value.Object(5)}, 5)
	holds(t, Object{Target: 6}, 6)
	holds(t, Object{Brand: math.MaxUint64, Target: 1 << 63}, math.MaxUint64, 1<<63)
	holds(t, Object{Content: value.Object(math.MaxUint64)}, math.MaxUint64)
}

func TestHoldsWhateverTheKind(t *testing.T) { // P3.3
	for k := range Kinds + 2 {
		o := whole(k)
		holds(t, o, 9, 8, 5, 6, math.MaxUint64)
		if !reflect.DeepEqual(o, whole(k)) {
			t.Errorf("Holds changed the object: %+v", o)
		}
	}
	holds(t, Object{Owner: 1, Module: 2, Func: 3, Membrane: 4, Deep: 5, Frozen: true})
}

func TestHoldsFieldsByTheirKeys(t *testing.T) { // P3.3
	o := Object{Fields: map[value.Value]value.Value{}}
	var want []ref.Ref
	for i, k := range rising() {
		r := ref.Ref(1000 - i) // so that an order by the Refs shows
		o.Fields[k] = value.Object(r)
		want = append(want, r)
	}
	for range 20 { // a map is gone through in another order each time
		holds(t, o, want...)
	}
	o = Object{Fields: map[value.Value]value.Value{value.Words("a"): value.Object(1), value.Number(10): value.Object(2), value.Number(9): value.Object(3), value.Number(-1): value.Object(4)}}
	holds(t, o, 4, 3, 2, 1)
}

func TestHoldsLeavesNoneOut(t *testing.T) { // P3.3
	none := []value.Value{{}, value.Truth(true), value.Number(7), value.Words("7"), value.Word(7), value.Object(ref.None), {Kind: value.Kinds, N: 7}}
	o := Object{Fields: map[value.Value]value.Value{}, Held: none}
	for i, v := range none {
		o.Fields[value.Number(int64(i))] = v
		o.Content = v
		holds(t, o)
	}
	o.Fields[value.Number(3)] = value.Object(30)
	o.Held = append(append([]value.Value{}, none...), value.Object(31), value.Value{}, value.Object(32))
	o.Target = 33
	holds(t, o, 30, 31, 32, 33)
}

func TestHoldsAsOftenAsNamed(t *testing.T) { // P3.3
	seven := value.Object(7)
	o := Object{
		Fields: map[value.Value]value.Value{value.Number(1): seven, value.Number(2): value.Object(8), value.Words("a"): seven},
		Held:   []value.Value{seven, seven, value.Object(8)},
		Brand:  7, Content: seven, Target: 7,
	}
	holds(t, o, 7, 8, 7, 7, 7, 8, 7, 7, 7)
}

func TestHoldsIsInTheOrderOfTheParts(t *testing.T) { // P3.3
	o := Object{
		Fields: map[value.Value]value.Value{value.Number(1): value.Object(9)},
		Held:   []value.Value{value.Object(8), value.Object(3), value.Object(7)},
		Brand:  6, Content: value.Object(5), Target: 4,
	}
	l := o.Holds()
	holds(t, o, 9, 8, 3, 7, 6, 5, 4)
	clear(l) // the answer is new memory
	holds(t, o, 9, 8, 3, 7, 6, 5, 4)
}

func TestHoldsNeedsNotWhatIsThere(t *testing.T) { // P3.3: the Refs that it names, whether there is an object or not
	a := New()
	a.Owner(2)
	q := put(t, a, Object{})
	r := put(t, a, Object{Target: q})
	a.Drop(q)
	holds(t, *a.Get(r), q)
	if l := a.Get(q).Holds(); len(l) != 0 {
		t.Errorf("what isn't there holds %d", l)
	}
}
