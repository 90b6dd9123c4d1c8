package shard

import "depot/api"

// blob is a blob as a shard holds it.
type blob struct {
	name   string
	bytes  string
	marked bool
	pins   int
}

// ring is a shard's blobs from the one at which the hand stands on, round the
// ring. The hand is always at the front, so the place just ahead of it is the end.
type ring struct {
	blobs []blob
}

// find tells where the blob of this name stands, or -1.
func (r *ring) find(name string) int {
	for i := range r.blobs {
		if r.blobs[i].name == name {
			return i
		}
	}
	return -1
}

// goOn lets the hand go on to the next blob.
func (r *ring) goOn() {
	r.join(r.leave())
}

// leave takes the blob at which the hand stands out of the ring.
func (r *ring) leave() blob {
	first := r.blobs[0]
	r.blobs[0] = blob{} // the list keeps the place for a while: it must not keep the bytes
	r.blobs = r.blobs[1:]
	return first
}

// join puts a blob just ahead of the one at which the hand stands.
func (r *ring) join(b blob) {
	r.blobs = append(r.blobs, b)
}

// Slots tells the blobs from the one at which the hand stands on.
func (r *ring) Slots() []api.Slot {
	out := make([]api.Slot, len(r.blobs))
	for i, b := range r.blobs {
		out[i] = api.Slot{Name: b.name, Marked: b.marked, Pins: b.pins}
	}
	return out
}
