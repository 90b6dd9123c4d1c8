package depot

import "depot/api"

// isClosed looks at a channel without waiting.
func isClosed(c <-chan struct{}) bool {
	select {
	case <-c:
		return true
	default:
		return false
	}
}

// stepInTurn lets the next connection in turn take a step, of those that can;
// false, if none can. Whether one can shows by letting it: else nothing changes.
func (d *Depot) stepInTurn() bool {
	for i := range d.conns {
		k := (d.turn + i) % len(d.conns)
		if d.step(d.conns[k]) != api.None {
			d.turn = k + 1 // not turned round yet: a connection of this number may be opened
			return true
		}
	}
	return false
}
