// Package ref is layer 1: names of objects: see shared/doc/01-ref.md.
package ref

// Ref is a slot's number, and how often that was used: in one number.
type Ref uint64

// None names no object.
const None Ref = 0

// usesShift: the number of uses stands above a slot's 32 bits.
const usesShift = 32

// Of: a slot, and how often it was used (from 1 on).
func Of(slot, uses uint32) Ref { return Ref(uses)<<usesShift | Ref(slot) }

// Slot: which one.
func (r Ref) Slot() uint32 { return uint32(r) }

// Uses: how often it was used.
func (r Ref) Uses() uint32 { return uint32(r >> usesShift) }

// Set is some of them.
type Set map[Ref]struct{}

// Add: one more; was it new?
func (s Set) Add(r Ref) bool {
	if s.Has(r) {
		return false
	}
	// A nil set answers as an empty one does, but has no room to keep anything: a store would panic.
	if s != nil {
		s[r] = struct{}{}
	}
	return true
}

// Has: is it one of them?
func (s Set) Has(r Ref) bool {
	_, ok := s[r]
	return ok
}
