package depot

import (
	"depot/api"
	"depot/conn"
	"depot/request"
)

// anyConn gives the connection of this number, open or closed.
func (d *Depot) anyConn(number int) (*conn.Conn, api.Errno) {
	if number < 0 || number >= len(d.conns) {
		return nil, api.ErrConn
	}
	return d.conns[number], api.OK
}

// openConn gives the connection of this number, if it is not closed.
func (d *Depot) openConn(number int) (*conn.Conn, api.Errno) {
	c, e := d.anyConn(number)
	if e == api.OK && c.Closed() {
		return nil, api.ErrClosed
	}
	return c, e
}

// step lets a connection take one step and tells which (P7). One that is closed
// takes none, as there nothing waits and nothing is under way.
func (d *Depot) step(c *conn.Conn) int {
	switch w := c.Work; {
	case w == nil:
		return d.begin(c)
	case w.Done < w.Request.Items():
		d.doItem(w)
		return api.Item
	default:
		d.reply(c)
		return api.Told
	}
}

// begin turns to what stands at the front of what came in.
func (d *Depot) begin(c *conn.Conn) int {
	inside, there := c.Cut()
	if !there {
		return api.None
	}
	asked, ok := request.Parse(inside)
	if !ok {
		c.Send(request.Refusal(inside))
		c.Close()
		return api.Closed
	}
	c.Work = d.work(asked)
	return api.Began
}

// work makes of a request one that is under way: its reply's body begins with
// what is known ahead of the items.
func (d *Depot) work(asked request.Request) *conn.Work {
	w := &conn.Work{Request: asked}
	switch r := asked.(type) {
	case request.Find:
		w.Lease = d.leases.Begin(r.Ttl)
		w.Body = append(tellLease(w.Lease), byte(r.Items()))
	case request.Read, request.Update:
		w.Body = []byte{byte(r.Items())}
	}
	return w
}

// reply lets the reply of the request that is under way go out.
func (d *Depot) reply(c *conn.Conn) {
	if l := c.Work.Lease; l != nil {
		l.Give(d.now)
	}
	c.Send(c.Work.Request.Reply(c.Work.Body))
	c.Work = nil
}

// drop ends the lease that the request under way has begun, if there is one:
// nobody will hear its number.
func (d *Depot) drop(c *conn.Conn) {
	if c.Work != nil && c.Work.Lease != nil {
		d.unpin(d.leases.End(c.Work.Lease))
	}
}
