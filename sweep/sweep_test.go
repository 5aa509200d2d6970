package sweep

import (
	"maps"
	"math"
	"reflect"
	"slices"
	"testing"

	"paling/api"
	"paling/arena"
	"paling/ref"
	"paling/value"
)

// put: one more, whose owner must have room.
func put(t *testing.T, a *arena.Arena, o arena.Object) ref.Ref {
	t.Helper()
	r, e := a.Put(o)
	if e != api.OK {
		t.Fatalf("Put: error %d", e)
	}
	return r
}

// some: an arena with one owner, and so many objects that name nothing.
func some(t *testing.T, n int) (*arena.Arena, []ref.Ref) {
	t.Helper()
	a := arena.New()
	a.Owner(n + 10)
	var l []ref.Ref
	for range n {
		l = append(l, put(t, a, arena.Object{}))
	}
	return a, l
}

// alive: no membrane is dead.
func alive(int) bool { return false }

// deadAre: these membranes are dead, no others.
func deadAre(l ...int) func(int) bool {
	return func(m int) bool { return slices.Contains(l, m) }
}

// proxy: one of a membrane, that stands for an object.
func proxy(m int, target ref.Ref) arena.Object {
	return arena.Object{Kind: arena.Proxy, Membrane: m, Target: target, Deep: 1}
}

// record: one whose fields name these.
func record(l ...ref.Ref) arena.Object {
	o := arena.Object{Fields: map[value.Value]value.Value{}}
	for i, r := range l {
		o.Fields[value.Number(int64(i))] = value.Object(r)
	}
	return o
}

// set: these Refs.
func set(l ...ref.Ref) ref.Set {
	s := ref.Set{}
	for _, r := range l {
		s.Add(r)
	}
	return s
}

// reaches: what Reach must answer.
func reaches(t *testing.T, a *arena.Arena, roots []ref.Ref, dead func(int) bool, want ...ref.Ref) {
	t.Helper()
	if got := Reach(a, roots, dead); !maps.Equal(got, set(want...)) {
		t.Errorf("from %d %d are reached, not %d", roots, slices.Sorted(maps.Keys(got)), want)
	}
}

// there: what the arena must have.
func there(t *testing.T, a *arena.Arena, want ...ref.Ref) {
	t.Helper()
	if got := a.All(); !maps.Equal(set(got...), set(want...)) || len(got) != len(set(want...)) {
		t.Errorf("%d are there, not %d", got, want)
	}
}

// collects: how many Collect must drop, and what must be there behind it.
func collects(t *testing.T, a *arena.Arena, roots []ref.Ref, c Cache, dead func(int) bool, dropped int, want ...ref.Ref) {
	t.Helper()
	if n := Collect(a, roots, c, dead); n != dropped {
		t.Errorf("from %d: %d were dropped, not %d", roots, n, dropped)
	}
	there(t, a, want...)
}

// way is how one object names another.
type way struct {
	name string
	set  func(o *arena.Object, to ref.Ref)
}

func ways() []way {
	return []way{
		{"Fields", func(o *arena.Object, to ref.Ref) {
			o.Fields = map[value.Value]value.Value{value.Words("a"): value.Number(1), value.Words("b"): value.Object(to)}
		}},
		{"Held", func(o *arena.Object, to ref.Ref) { o.Held = []value.Value{value.Truth(true), value.Object(to)} }},
		{"Brand", func(o *arena.Object, to ref.Ref) { o.Brand = to }},
		{"Content", func(o *arena.Object, to ref.Ref) { o.Content = value.Object(to) }},
		{"Target", func(o *arena.Object, to ref.Ref) { o.Target = to }},
	}
}

// noRefs: Refs that name nothing: none, one that was dropped, others that never were.
func noRefs(t *testing.T, a *arena.Arena) []ref.Ref {
	t.Helper()
	old := put(t, a, arena.Object{})
	gone := put(t, a, arena.Object{})
	a.Drop(old)
	again := put(t, a, arena.Object{}) // the slot of one that was dropped has another object now
	a.Drop(gone)
	l := []ref.Ref{ref.None, old, gone, math.MaxUint64, 1 << 63, ref.Of(math.MaxUint32, 1), ref.Of(0, math.MaxUint32)}
	return append(l, ref.Of(again.Slot(), 0), ref.Of(again.Slot(), again.Uses()+1), ref.Of(again.Slot()+50, 1))
}

func TestReachWithoutRoots(t *testing.T) { // P4.1
	a, l := some(t, 3)
	a.Get(l[0]).Target = l[1]
	reaches(t, a, nil, alive)
	reaches(t, a, []ref.Ref{}, alive)
	empty := arena.New()
	reaches(t, empty, nil, alive)
	reaches(t, empty, []ref.Ref{ref.None, l[0], math.MaxUint64}, alive)
}

func TestRootsThatNameNothing(t *testing.T) { // P4.1: reached are objects that are there
	a, l := some(t, 2)
	for _, r := range noRefs(t, a) {
		reaches(t, a, []ref.Ref{r}, alive)
		reaches(t, a, []ref.Ref{r, l[1], r}, alive, l[1])
	}
	reaches(t, a, noRefs(t, a), alive)
}

func TestObjectsThatNameNothing(t *testing.T) { // P4.1: what an object names may not be there
	a, l := some(t, 2)
	for _, r := range noRefs(t, a) {
		for _, w := range ways() {
			x := put(t, a, arena.Object{})
			w.set(a.Get(x), r)
			reaches(t, a, []ref.Ref{x}, alive, x)
			a.Drop(x)
		}
	}
	a.Get(l[0]).Held = []value.Value{{}, value.Number(int64(l[1])), value.Word(int64(l[1])), value.Words("x")}
	reaches(t, a, l[:1], alive, l[0])
}

func TestTheSameRootTwice(t *testing.T) { // P4.1
	a, l := some(t, 3)
	a.Get(l[0]).Target = l[1]
	reaches(t, a, []ref.Ref{l[0], l[0]}, alive, l[0], l[1])
	reaches(t, a, []ref.Ref{l[1], l[0], l[1], l[0]}, alive, l[0], l[1])
	collects(t, a, []ref.Ref{l[0], l[1], l[0]}, nil, alive, 1, l[0], l[1])
}

func TestEachPartNames(t *testing.T) { // P4.1: in a row, in a ring, and itself, by each part
	for _, w := range ways() {
		t.Run(w.name, func(t *testing.T) {
			for k := range arena.Kinds {
				a := arena.New()
				a.Owner(6)
				var l []ref.Ref
				for range 6 {
					l = append(l, put(t, a, arena.Object{Kind: k, Membrane: 3}))
				}
				w.set(a.Get(l[0]), l[1])
				w.set(a.Get(l[1]), l[2])
				w.set(a.Get(l[2]), l[3])
				reaches(t, a, l[:1], alive, l[0], l[1], l[2], l[3])
				reaches(t, a, l[1:2], alive, l[1], l[2], l[3])
				reaches(t, a, l[3:4], alive, l[3])
				w.set(a.Get(l[3]), l[0]) // a ring
				for _, r := range l[:4] {
					reaches(t, a, []ref.Ref{r}, alive, l[0], l[1], l[2], l[3])
				}
				w.set(a.Get(l[4]), l[4]) // itself
				reaches(t, a, l[4:5], alive, l[4])
				reaches(t, a, l[5:], alive, l[5])
				collects(t, a, l[5:], nil, alive, 5, l[5]) // a ring names itself, but no root names it
			}
		})
	}
}

func TestAllPartsOfOneName(t *testing.T) { // P4.1
	a, l := some(t, 10)
	a.Get(l[0]).Fields = map[value.Value]value.Value{value.Number(-1): value.Object(l[1]), value.Words("k"): value.Object(l[2])}
	a.Get(l[0]).Held = []value.Value{value.Object(l[3]), {}, value.Object(l[4]), value.Object(l[4])}
	a.Get(l[0]).Brand = l[5]
	a.Get(l[0]).Content = value.Object(l[6])
	a.Get(l[0]).Target = l[7]
	reaches(t, a, l[:1], alive, l[:8]...)
	collects(t, a, l[:1], nil, alive, 2, l[:8]...)
}

func TestWhatIsReachedOnTwoWays(t *testing.T) { // P4.1
	a, l := some(t, 5)
	a.Get(l[0]).Held = []value.Value{value.Object(l[1]), value.Object(l[2])}
	a.Get(l[1]).Target = l[3]
	a.Get(l[2]).Target = l[3]
	reaches(t, a, l[:1], alive, l[:4]...)
	reaches(t, a, []ref.Ref{l[2], l[1]}, alive, l[1], l[2], l[3])
	reaches(t, a, []ref.Ref{l[4], l[3]}, alive, l[3], l[4])
}

func TestAProxyOfADeadMembraneNamesNothing(t *testing.T) { // P4.1
	a, l := some(t, 3)
	p := put(t, a, proxy(2, l[0]))
	q := put(t, a, proxy(3, l[1]))
	both := put(t, a, record(p, q))
	reaches(t, a, []ref.Ref{p}, alive, p, l[0])
	reaches(t, a, []ref.Ref{p}, deadAre(3), p, l[0])
	reaches(t, a, []ref.Ref{p}, deadAre(2), p) // as a root it is reached itself
	reaches(t, a, []ref.Ref{both}, alive, both, p, q, l[0], l[1])
	reaches(t, a, []ref.Ref{both}, deadAre(2), both, p, q, l[1])
	reaches(t, a, []ref.Ref{both}, deadAre(2, 3), both, p, q)
	reaches(t, a, []ref.Ref{both, l[0]}, deadAre(2, 3), both, p, q, l[0]) // what is named besides stays
	x := put(t, a, record(both, l[1]))
	reaches(t, a, []ref.Ref{x}, deadAre(2, 3), x, both, p, q, l[1])
}

func TestADeadProxyNamesByNoPart(t *testing.T) { // P4.1: not its Target alone
	for _, w := range ways() {
		a, l := some(t, 1)
		p := put(t, a, proxy(0, ref.None))
		w.set(a.Get(p), l[0])
		reaches(t, a, []ref.Ref{p}, alive, p, l[0])
		reaches(t, a, []ref.Ref{p}, deadAre(0), p)
	}
}

func TestOnlyProxiesDieWithTheirMembrane(t *testing.T) { // P4.1: a revoker has a membrane too, others have nought there
	for k := range arena.Kinds {
		for _, m := range []int{0, 5, -1, math.MaxInt, math.MinInt} {
			a, l := some(t, 1)
			x := put(t, a, arena.Object{Kind: k, Membrane: m, Target: l[0]})
			want := []ref.Ref{x, l[0]}
			if k == arena.Proxy {
				want = want[:1]
			}
			reaches(t, a, []ref.Ref{x}, deadAre(m), want...)
			reaches(t, a, []ref.Ref{x}, func(n int) bool { return n != m }, x, l[0])
		}
	}
}

func TestProxiesBehindOneAnother(t *testing.T) { // P4.1
	a, l := some(t, 2)
	a.Get(l[0]).Target = l[1]
	var row []ref.Ref
	last := l[0]
	for m := range api.MaxChain {
		last = put(t, a, proxy(m, last))
		row = append(row, last)
	}
	all := append(slices.Clone(row), l...)
	reaches(t, a, []ref.Ref{last}, alive, all...)
	for m := range api.MaxChain { // behind the dead one nothing is reached
		reaches(t, a, []ref.Ref{last}, deadAre(m), row[m:]...)
		reaches(t, a, []ref.Ref{last, l[1]}, deadAre(m), append(slices.Clone(row[m:]), l[1])...)
	}
	collects(t, a, []ref.Ref{last}, nil, deadAre(2), 4, row[2:]...)
}

func TestARingThroughAProxy(t *testing.T) { // P4.1
	a, l := some(t, 1)
	p := put(t, a, proxy(1, l[0]))
	a.Get(l[0]).Content = value.Object(p)
	reaches(t, a, l, alive, l[0], p)
	reaches(t, a, []ref.Ref{p}, alive, l[0], p)
	reaches(t, a, l, deadAre(1), l[0], p)
	reaches(t, a, []ref.Ref{p}, deadAre(1), p)
	a.Get(p).Target = p
	reaches(t, a, []ref.Ref{p}, deadAre(1), p)
	reaches(t, a, []ref.Ref{p}, alive, p)
}

func TestALongRow(t *testing.T) { // P4.1, P1
	const n = 200000
	a, l := some(t, n)
	for i := range n - 1 {
		a.Get(l[i]).Target = l[i+1]
	}
	if s := Reach(a, l[:1], alive); len(s) != n {
		t.Errorf("%d of %d are reached", len(s), n)
	}
	a.Get(l[n/2]).Target = ref.None
	if k := Collect(a, l[:1], nil, alive); k != n/2-1 {
		t.Errorf("%d were dropped, not %d", k, n/2-1)
	}
}

// tangle: an arena of two owners, with a cache, in which one thing of each sort stands; its roots.
func tangle(t *testing.T) (a *arena.Arena, c Cache, roots []ref.Ref) {
	t.Helper()
	a = arena.New()
	a.Owner(20)
	a.Owner(20)
	x := put(t, a, arena.Object{Owner: 1})
	y := put(t, a, record(x))
	p := put(t, a, proxy(2, x))
	q := put(t, a, proxy(4, y))
	put(t, a, record(p, q, y))
	z := put(t, a, arena.Object{Kind: arena.Closure, Owner: 1, Held: []value.Value{value.Object(p)}})
	c = Cache{{2, x}: p, {4, y}: q, {5, z}: ref.Of(90, 1)}
	return a, c, []ref.Ref{z, ref.None, z}
}

// looks: all that is there, with what each is.
func looks(a *arena.Arena) map[ref.Ref]arena.Object {
	m := map[ref.Ref]arena.Object{}
	for _, r := range a.All() {
		o := *a.Get(r)
		o.Fields, o.Held = maps.Clone(o.Fields), slices.Clone(o.Held)
		m[r] = o
	}
	return m
}

func TestReachChangesNothing(t *testing.T) { // P4.1, R5
	a, _, roots := tangle(t)
	ahead, all := looks(a), a.All()
	kept := slices.Clone(roots)
	for _, dead := range []func(int) bool{alive, deadAre(2), deadAre(2, 4), func(int) bool { return true }} {
		s := Reach(a, roots, dead)
		clear(s) // the answer is new memory
		if again := Reach(a, roots, dead); len(again) == 0 {
			t.Error("a change of an answer is seen in the next one")
		}
	}
	if !reflect.DeepEqual(looks(a), ahead) || !slices.Equal(a.All(), all) {
		t.Errorf("%+v, not %+v", looks(a), ahead)
	}
	if x, y := a.Many(0); x != 4 || y != 16 {
		t.Errorf("owner 0 has %d, %d more", x, y)
	}
	if !slices.Equal(roots, kept) {
		t.Errorf("the roots are %d, were %d", roots, kept)
	}
}

func TestRootsStayWithTheirSpareRoom(t *testing.T) { // P4.1, R5
	a, _, l := tangle(t)
	all := a.All()
	room := append(slices.Clone(l), 77, 78, 79, 80, 81, 82)
	kept := slices.Clone(room)
	roots := room[:len(l)]
	for _, dead := range []func(int) bool{alive, deadAre(2, 4)} {
		Reach(a, roots, dead)
		Reach(a, append(roots[:0:0], all...), dead)
		Collect(a, roots, Cache{}, dead)
	}
	if !slices.Equal(room, kept) {
		t.Errorf("the roots' room is %d, was %d", room, kept)
	}
}

func TestCollectWithoutRootsTakesAll(t *testing.T) { // P4.1, the chapter's example
	a, c, _ := tangle(t)
	collects(t, a, nil, c, alive, 6)
	if len(c) != 0 {
		t.Errorf("the cache has %v", c)
	}
	for n := range 2 {
		if x, y := a.Many(n); x != 0 || y != 20 {
			t.Errorf("owner %d has %d, %d more", n, x, y)
		}
	}
	collects(t, a, nil, c, alive, 0)
	collects(t, arena.New(), nil, Cache{}, alive, 0)
	a, l := some(t, 3)
	collects(t, a, []ref.Ref{ref.None, ref.Of(9, 9), math.MaxUint64}, Cache{}, alive, 3)
	collects(t, a, l, Cache{}, alive, 0) // roots that went name nothing
}

func TestCollectKeepsWhatIsReached(t *testing.T) { // P4.1
	a, l := some(t, 6)
	a.Get(l[1]).Target = l[4]
	a.Get(l[4]).Frozen, a.Get(l[4]).Module = true, 7
	a.Get(l[0]).Target = l[1] // what names a reached one isn't reached by that
	ahead := looks(a)
	collects(t, a, []ref.Ref{l[1], l[5]}, nil, alive, 3, l[1], l[4], l[5])
	for r, o := range looks(a) {
		if !reflect.DeepEqual(o, ahead[r]) {
			t.Errorf("object %d is %+v, was %+v", r, o, ahead[r])
		}
	}
	for _, r := range []ref.Ref{l[0], l[2], l[3]} {
		if a.Get(r) != nil {
			t.Errorf("object %d is there", r)
		}
	}
}

func TestCollectMakesEachOwnersRoom(t *testing.T) { // P4.1, P3.1
	a := arena.New()
	a.Owner(2)
	a.Owner(3)
	a.Owner(1)
	x := put(t, a, arena.Object{})
	put(t, a, arena.Object{Target: x})
	y := put(t, a, arena.Object{Owner: 1, Target: x})
	put(t, a, arena.Object{Owner: 1})
	put(t, a, arena.Object{Owner: 1})
	z := put(t, a, arena.Object{Owner: 2})
	if _, e := a.Put(arena.Object{}); e != api.ErrFull {
		t.Errorf("owner 0 isn't full: %d", e)
	}
	collects(t, a, []ref.Ref{y, z}, nil, alive, 3, x, y, z)
	for n, want := range [][2]int{{1, 1}, {1, 2}, {1, 0}} {
		if many, more := a.Many(n); many != want[0] || more != want[1] {
			t.Errorf("owner %d has %d, %d more, not %d", n, many, more, want)
		}
	}
	put(t, a, arena.Object{})
	if _, e := a.Put(arena.Object{Owner: 2}); e != api.ErrFull {
		t.Errorf("owner 2 has room that it hasn't: %d", e)
	}
}

func TestASecondCollectFindsNothing(t *testing.T) { // P4.1
	a, c, roots := tangle(t)
	if n := Collect(a, roots, c, alive); n != 3 {
		t.Errorf("%d were dropped, not 3", n)
	}
	all, kept := a.All(), maps.Clone(c)
	collects(t, a, roots, c, alive, 0, all...)
	if !maps.Equal(c, kept) {
		t.Errorf("the cache has %v, had %v", c, kept)
	}
	reaches(t, a, roots, alive, all...)
	put(t, a, arena.Object{})
	collects(t, a, roots, c, alive, 1, all...)
}

func TestWhatOnlyADeadProxyNamesGoes(t *testing.T) { // P4.1, P5
	a, l := some(t, 3)
	a.Get(l[0]).Target = l[1]
	p := put(t, a, proxy(2, l[0]))
	x := put(t, a, record(p))
	y := put(t, a, record(l[1]))
	c := Cache{{2, l[0]}: p}
	collects(t, a, []ref.Ref{x, y}, c, deadAre(2), 2, x, y, p, l[1]) // l[1] is named besides
	if len(c) != 0 {
		t.Errorf("the cache has %v", c)
	}
	collects(t, a, []ref.Ref{x}, c, deadAre(2), 2, x, p)
	collects(t, a, nil, c, deadAre(2), 2)
}

func TestTheCacheForgets(t *testing.T) { // P4.1
	a, l := some(t, 8)
	p := put(t, a, proxy(1, l[1]))
	q := put(t, a, proxy(2, l[2]))
	gone := put(t, a, proxy(1, l[3]))
	deadGone := put(t, a, proxy(2, l[4]))
	stays := Entry{1, l[1]}
	c := Cache{
		stays:                   p,
		{2, l[2]}:               q,        // its proxy is there, its membrane is dead
		{1, l[3]}:               gone,     // its proxy goes now
		{2, l[4]}:               deadGone, // both
		{1, l[5]}:               ref.Of(50, 3),
		{1, l[6]}:               ref.None,
		{3, ref.Of(99, 9)}:      p, // what it stands for isn't asked: its proxy is there
		{-1, ref.None}:          q, // the entry's membrane counts, not the proxy's
		{math.MinInt, l[1]}:     p,
		{math.MaxInt, l[1] + 1}: gone,
	}
	want := Cache{stays: p, {3, ref.Of(99, 9)}: p, {-1, ref.None}: q}
	collects(t, a, []ref.Ref{p, q}, c, deadAre(2, math.MinInt), 9, p, q, l[1])
	if !maps.Equal(c, want) {
		t.Errorf("the cache has %v, not %v", c, want)
	}
	collects(t, a, []ref.Ref{p}, c, deadAre(2), 1, p, l[1])
	if !maps.Equal(c, Cache{stays: p, {3, ref.Of(99, 9)}: p}) {
		t.Errorf("the cache has %v", c)
	}
	collects(t, a, []ref.Ref{p}, c, deadAre(1), 1, p)
	if !maps.Equal(c, Cache{{3, ref.Of(99, 9)}: p}) {
		t.Errorf("the cache has %v", c)
	}
	collects(t, a, nil, c, alive, 1)
	if len(c) != 0 {
		t.Errorf("the cache has %v", c)
	}
}

func TestTheCacheForgetsWhereNothingIsDropped(t *testing.T) { // P4.1
	a, l := some(t, 1)
	p := put(t, a, proxy(2, l[0]))
	c := Cache{{2, l[0]}: p, {4, l[0]}: ref.Of(30, 1)}
	collects(t, a, []ref.Ref{p, l[0]}, c, deadAre(2), 0, p, l[0])
	if len(c) != 0 {
		t.Errorf("the cache has %v", c)
	}
}

func TestTheCacheKeepsNothing(t *testing.T) { // P4.1: an entry is no root
	a, l := some(t, 2)
	p := put(t, a, proxy(1, l[0]))
	c := Cache{{1, l[0]}: p}
	collects(t, a, l[1:], c, alive, 2, l[1])
	if len(c) != 0 {
		t.Errorf("the cache has %v", c)
	}
	p = put(t, a, proxy(1, l[1])) // its slot is one of those that were used
	c = Cache{{1, l[1]}: p}
	collects(t, a, []ref.Ref{p}, c, alive, 0, p, l[1])
	if len(c) != 1 {
		t.Errorf("the cache has %v", c)
	}
}

func TestNobodyTellsAndNothingIsCached(t *testing.T) { // P1, R4
	a, l := some(t, 3)
	p := put(t, a, proxy(0, l[0]))
	reaches(t, a, []ref.Ref{p}, nil, p, l[0])
	c := Cache{{0, l[0]}: p}
	collects(t, a, []ref.Ref{p}, c, nil, 2, p, l[0])
	if len(c) != 1 {
		t.Errorf("the cache has %v", c)
	}
	collects(t, a, []ref.Ref{p}, nil, deadAre(0), 1, p)
	collects(t, a, nil, nil, nil, 1)
}

// plain: what is reached, found in the plainest way: gone over again and again till nothing comes on top.
func plain(a *arena.Arena, roots []ref.Ref, dead func(int) bool) ref.Set {
	s := ref.Set{}
	for more := true; more; {
		more = false
		named := slices.Clone(roots)
		for r := range s {
			if o := a.Get(r); o.Kind != arena.Proxy || !dead(o.Membrane) {
				named = append(named, o.Holds()...)
			}
		}
		for _, r := range named {
			if a.Get(r) != nil && s.Add(r) {
				more = true
			}
		}
	}
	return s
}

// plainCache: what a cache must have behind a collection of which these stayed.
func plainCache(c Cache, stayed ref.Set, dead func(int) bool) Cache {
	left := Cache{}
	for e, p := range c {
		if stayed.Has(p) && !dead(e.Membrane) {
			left[e] = p
		}
	}
	return left
}

// numbers: a row of numbers, the same at every run.
func numbers(seed uint32) func(n int) int {
	return func(n int) int {
		seed = seed*1664525 + 1013904223
		return int(seed>>8) % n
	}
}

// anyObject: one of some kind, of owner 0 or 1, that names some of these.
func anyObject(next func(int) int, given []ref.Ref) arena.Object {
	o := arena.Object{Kind: arena.Kind(next(int(arena.Kinds))), Owner: next(2), Membrane: next(4)}
	for range next(3) {
		ways()[next(5)].set(&o, given[next(len(given))])
	}
	return o
}

func TestManyCollectionsAgainstPlainOnes(t *testing.T) { // P4.1
	next := numbers(2024)
	a, c, given := arena.New(), Cache{}, []ref.Ref{ref.None, 5}
	a.Owner(200)
	a.Owner(200)
	for round := range 300 {
		for range next(20) {
			r := put(t, a, anyObject(next, given))
			given = append(given, r)
			if o := a.Get(r); o.Kind == arena.Proxy {
				c[Entry{o.Membrane, o.Target}] = r
			}
			if o := a.Get(given[next(len(given))]); o != nil { // rings come by changes
				ways()[next(5)].set(o, r)
			}
		}
		var roots []ref.Ref
		for range next(12) {
			roots = append(roots, given[len(given)-1-next(min(len(given), 60))])
		}
		dead := deadAre(next(4), next(8))
		want, ahead := plain(a, roots, dead), len(a.All())
		left := plainCache(c, want, dead)
		if got := Reach(a, roots, dead); !maps.Equal(got, want) {
			t.Fatalf("round %d: %d are reached, not %d", round, len(got), len(want))
		}
		if n := Collect(a, roots, c, dead); n != ahead-len(want) {
			t.Fatalf("round %d: %d were dropped, not %d", round, n, ahead-len(want))
		}
		if !maps.Equal(set(a.All()...), want) || !maps.Equal(c, left) {
			t.Fatalf("round %d: %d are there, not %d; the cache has %d, not %d", round, len(a.All()), len(want), len(c), len(left))
		}
	}
}
