package ref

import (
	"math"
	"testing"
)

// edges: numbers at which a shift or a conversion that is off by a bit shows.
var edges = []uint32{0, 1, 2, 255, 256, 65535, 65536, math.MaxInt32, math.MaxInt32 + 1, math.MaxUint32 - 1, math.MaxUint32}

func TestOfMakesThatNumber(t *testing.T) { // P1.1
	for _, c := range []struct {
		slot, uses uint32
		want       Ref
	}{
		{0, 0, None},
		{1, 2, 8589934593},
		{2, 1, 4294967298},
		{0, 1, 1 << 32},
		{1, 0, 1},
		{math.MaxUint32, 0, math.MaxUint32},
		{0, math.MaxUint32, math.MaxUint64 - math.MaxUint32},
		{math.MaxUint32, math.MaxUint32, math.MaxUint64},
		{1 << 31, 1, 1<<32 + 1<<31},
		{1, 1 << 31, 1<<63 + 1},
	} {
		if got := Of(c.slot, c.uses); got != c.want {
			t.Errorf("Of(%d, %d) is %d, not %d", c.slot, c.uses, got, c.want)
		}
	}
}

func TestSlotAndUsesComeBack(t *testing.T) { // P1.1
	for _, slot := range edges {
		for _, uses := range edges {
			r := Of(slot, uses)
			if r.Slot() != slot || r.Uses() != uses {
				t.Errorf("Of(%d, %d): back come %d, %d", slot, uses, r.Slot(), r.Uses())
			}
		}
	}
}

func TestEveryRefIsOfItsParts(t *testing.T) { // P1.1
	for _, r := range []Ref{None, 1, math.MaxUint32, 1 << 32, 8589934593, 1 << 63, 0x0123456789abcdef, math.MaxUint64} {
		if got := Of(r.Slot(), r.Uses()); got != r {
			t.Errorf("of the parts of %d: %d", r, got)
		}
	}
}

func TestNoTwoPairsShareARef(t *testing.T) { // P1.1
	seen := map[Ref][2]uint32{}
	for _, slot := range edges {
		for _, uses := range edges {
			r := Of(slot, uses)
			if was, ok := seen[r]; ok {
				t.Errorf("(%d, %d) and %v are both %d", slot, uses, was, r)
			}
			seen[r] = [2]uint32{slot, uses}
		}
	}
}

func TestAddTellsWhetherItWasNew(t *testing.T) { // P1.2
	s := Set{}
	for _, r := range []Ref{None, 1, Of(1, 2), Of(2, 1), Of(0, math.MaxUint32), Of(math.MaxUint32, 0), math.MaxUint64} {
		if s.Has(r) {
			t.Errorf("%d is in the set ahead of Add", r)
		}
		if !s.Add(r) {
			t.Errorf("Add(%d), the first time: false", r)
		}
		if !s.Has(r) {
			t.Errorf("%d isn't in the set behind Add", r)
		}
		if s.Add(r) {
			t.Errorf("Add(%d), once more: true", r)
		}
		if !s.Has(r) {
			t.Errorf("%d isn't in the set behind the second Add", r)
		}
	}
	if len(s) != 7 {
		t.Errorf("7 were added, the set has %d", len(s))
	}
}

func TestHasTellsOthersApart(t *testing.T) { // P1.2
	s := Set{}
	s.Add(Of(5, 3))
	for _, r := range []Ref{None, Of(5, 2), Of(5, 4), Of(4, 3), Of(6, 3), Of(3, 5), Of(5, 0), Of(0, 3), math.MaxUint64} {
		if s.Has(r) {
			t.Errorf("%d was never added", r)
		}
	}
	if len(s) != 1 || !s.Has(Of(5, 3)) {
		t.Error("asking changed the set")
	}
}

func TestAddLeavesTheOthers(t *testing.T) { // P1.2
	s := Set{}
	for i := range uint32(1000) {
		s.Add(Of(i, i%7))
	}
	for i := range uint32(1000) {
		if !s.Has(Of(i, i%7)) || s.Has(Of(i, i%7+1)) {
			t.Fatalf("slot %d", i)
		}
	}
	if len(s) != 1000 {
		t.Errorf("1000 were added, the set has %d", len(s))
	}
}

func TestSetsAreApart(t *testing.T) { // P1.2, R6
	a, b := Set{}, Set{}
	a.Add(1)
	if b.Has(1) || !b.Add(1) {
		t.Error("what one set has is seen in another")
	}
}

func TestTheSetThatIsCopiedIsTheSame(t *testing.T) { // P1.2: a set is a map
	a := Set{7: {}}
	b := a
	if !b.Has(7) || b.Add(7) || !b.Add(8) || !a.Has(8) {
		t.Error("two names of one set differ")
	}
}

func TestNilSetIsEmpty(t *testing.T) { // P1, R4
	var s Set
	for _, r := range []Ref{None, 5, math.MaxUint64} {
		if s.Has(r) {
			t.Errorf("a nil set has %d", r)
		}
		if !s.Add(r) {
			t.Errorf("%d was in a nil set", r)
		}
	}
}
