// Package shard: blobs in a fixed room, from which those are thrown out that
// were not asked for lately.
package shard

import (
	"strings"

	"depot/api"
)

// Shard is made of a ring of blobs and a ledger of their bytes.
type Shard struct {
	ring
	ledger
}

// New makes a shard that holds nothing.
func New(room int) *Shard {
	return &Shard{ledger: ledger{room: room}}
}

// Store lets the blob of this name come in: api.Stored or api.NoRoom.
func (s *Shard) Store(name, bytes string) int {
	if i := s.find(name); i >= 0 {
		s.blobs[i].marked = true
		return api.Stored
	}
	if !s.couldFit(len(bytes)) {
		return api.NoRoom
	}
	// This ends: a second round meets no marks, and without the blobs that have no pins it fits.
	for !s.fits(len(bytes)) {
		s.lookAtNext()
	}
	// A clone, as the bytes may be a piece of a far longer text.
	s.join(blob{name: name, bytes: strings.Clone(bytes)})
	s.hold(len(bytes))
	return api.Stored
}

// lookAtNext deals with the blob at which the hand stands.
func (s *Shard) lookAtNext() {
	b := &s.blobs[0]
	switch {
	case b.pins > 0:
		s.goOn()
	case b.marked:
		b.marked = false
		s.goOn()
	default:
		s.hold(-len(s.leave().bytes))
	}
}

// Holds tells if the blob of this name is held.
func (s *Shard) Holds(name string) bool { return s.find(name) >= 0 }

// Read marks the blob of this name and tells its bytes; false, if it is not held.
func (s *Shard) Read(name string) (string, bool) {
	i := s.find(name)
	if i < 0 {
		return "", false
	}
	s.blobs[i].marked = true
	return s.blobs[i].bytes, true
}

// Pin gives the blob of this name one more pin; it tells if it is held.
func (s *Shard) Pin(name string) bool {
	i := s.find(name)
	if i < 0 {
		return false
	}
	b := &s.blobs[i]
	if b.pins == 0 {
		s.keep(len(b.bytes))
	}
	b.pins++
	return true
}

// Unpin takes one pin from the blob of this name, if it has one.
func (s *Shard) Unpin(name string) {
	i := s.find(name)
	if i < 0 || s.blobs[i].pins == 0 {
		return
	}
	b := &s.blobs[i]
	b.pins--
	if b.pins == 0 {
		s.keep(-len(b.bytes))
	}
}
