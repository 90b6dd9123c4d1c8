// Package conn: connections, over which clients speak to a depot.
package conn

import (
	"depot/lease"
	"depot/request"
)

// Conn is made of what came in and what goes out. As it is made, it is open.
type Conn struct {
	incoming
	outgoing
	Work   *Work // nil, if no request is under way
	closed bool
}

// Work is a request that is under way.
type Work struct {
	Request request.Request
	Lease   *lease.Lease // nil, if it has none
	Done    int          // how many of its items are
	Body    []byte       // of its reply, as far as it goes
}

// Closed tells if the connection is closed.
func (c *Conn) Closed() bool { return c.closed }

// Close closes the connection; what goes out stays.
func (c *Conn) Close() {
	c.clear()
	c.Work = nil
	c.closed = true
}
