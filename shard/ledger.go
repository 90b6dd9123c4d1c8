package shard

// ledger counts a shard's bytes.
type ledger struct {
	room   int
	held   int // of all blobs
	pinned int // of those that have pins
}

// Held tells how many bytes there are.
func (l *ledger) Held() int { return l.held }

// fits tells if so many bytes fit beside those that are held.
func (l *ledger) fits(bytes int) bool { return bytes <= l.room-l.held }

// couldFit tells if so many bytes fit beside those that may not be thrown out.
func (l *ledger) couldFit(bytes int) bool { return bytes <= l.room-l.pinned }

// hold counts bytes that come in, or go (below 0).
func (l *ledger) hold(bytes int) { l.held += bytes }

// keep counts bytes that may not be thrown out any more, or may again (below 0).
func (l *ledger) keep(bytes int) { l.pinned += bytes }
