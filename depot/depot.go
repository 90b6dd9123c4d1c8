// Package depot: blobs by their sums, for many who ask at once: see DOC.md.
package depot

import (
	"slices"

	"depot/action"
	"depot/api"
	"depot/conn"
	"depot/lease"
	"depot/names"
	"depot/shard"
)

// Depot keeps blobs and actions.
type Depot struct {
	shards  []*shard.Shard
	conns   []*conn.Conn
	leases  lease.Book
	actions action.Book
	now     int
	turn    int // one more than the number of the connection that took a step last by Serve
}

// Name tells a blob's name (P3).
func Name(blob string) (string, api.Errno) {
	if tooLong(blob) {
		return "", api.ErrLong
	}
	return names.Of(blob), api.OK
}

func tooLong(blob string) bool { return len(blob) > api.MaxBlob }

// New makes a depot (P3).
func New(c api.Config) (*Depot, api.Errno) {
	if c.Shards < 1 || c.Shards > api.MaxShards || c.Room < 1 || c.Room > api.MaxRoom {
		return nil, api.ErrConfig
	}
	d := &Depot{}
	for range c.Shards {
		d.shards = append(d.shards, shard.New(c.Room))
	}
	return d, api.OK
}

// Open opens a connection (P6).
func (d *Depot) Open() (int, api.Errno) {
	if len(d.conns) >= api.MaxConns {
		return 0, api.ErrMany
	}
	d.conns = append(d.conns, &conn.Conn{})
	return len(d.conns) - 1, api.OK
}

// Feed gives a connection bytes (P6).
func (d *Depot) Feed(conn int, bytes string) api.Errno {
	c, e := d.openConn(conn)
	if e != api.OK {
		return e
	}
	if !c.Feed(bytes) {
		return api.ErrLong
	}
	return api.OK
}

// Pick lets a connection take a step (P7).
func (d *Depot) Pick(conn int) (int, api.Errno) {
	c, e := d.anyConn(conn)
	if e != api.OK {
		return api.None, e
	}
	return d.step(c), api.OK
}

// Serve lets connections take steps in turn (P11).
func (d *Depot) Serve(steps int, stop int) int {
	stopped := make(chan struct{})
	taken := 0
	for taken < steps {
		if taken == stop {
			close(stopped)
		}
		if isClosed(stopped) || !d.stepInTurn() {
			break
		}
		taken++
	}
	return taken
}

// Take takes bytes that go out (P6).
func (d *Depot) Take(conn int, most int) (string, api.Errno) {
	c, e := d.anyConn(conn)
	if e != api.OK {
		return "", e
	}
	if most < 0 {
		return "", api.ErrArg
	}
	return c.Take(most), api.OK
}

// Close closes a connection (P6).
func (d *Depot) Close(conn int) api.Errno {
	c, e := d.openConn(conn)
	if e != api.OK {
		return e
	}
	d.drop(c)
	c.Close()
	return api.OK
}

// Tick lets the time go on (P10).
func (d *Depot) Tick(n int) api.Errno {
	if n < 0 || n > api.MaxTick {
		return api.ErrArg
	}
	d.now += n
	d.unpin(d.leases.EndDue(d.now))
	return api.OK
}

// Bulk stores blobs (P4).
func (d *Depot) Bulk(blobs []string) ([]int, api.Errno) {
	if len(blobs) > api.MaxBulk {
		return nil, api.ErrMany
	}
	if slices.ContainsFunc(blobs, tooLong) {
		return nil, api.ErrLong
	}
	lots := d.sortOut(blobs)
	d.storeAll(lots)
	return gather(lots, len(blobs)), api.OK
}

// Ring tells a shard's blobs (P5).
func (d *Depot) Ring(shard int) ([]api.Slot, api.Errno) {
	if shard < 0 || shard >= len(d.shards) {
		return nil, api.ErrArg
	}
	return d.shards[shard].Slots(), api.OK
}

// Look tells how the depot is (P5).
func (d *Depot) Look() api.View {
	bytes := make([]int, len(d.shards))
	for k, s := range d.shards {
		bytes[k] = s.Held()
	}
	return api.View{
		Now:     d.now,
		Leases:  d.leases.Count(),
		Actions: d.actions.Count(),
		Conns:   len(d.conns),
		Bytes:   bytes,
	}
}
