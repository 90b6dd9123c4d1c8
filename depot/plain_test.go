package depot_test

import (
	"crypto/sha256"
	"slices"
	"strings"

	"depot/api"
)

// plain is a depot by the document's words alone, for TestAgainstPlain: nothing is
// counted on the way, and a frame is none of a request if taking it apart panics.
type plain struct {
	room    int
	rings   [][]string // names, from the one at which the hand stands on
	marked  map[string]bool
	bytes   map[string]string // by names, of all that ever were stored
	actions [][2]string
	leases  []*plainLease
	begun   int
	now     int
	conns   []*plainConn
	last    int // the connection that took a step last by serve, or -1
}

type plainLease struct {
	number, deadline int
	given            bool
	names            []string
}

type plainConn struct {
	in, out string
	closed  bool
	job     *plainJob
}

type plainJob struct {
	kind, number, ttl int
	things            []string // a name, a key, a lease's number
	bytes             []string // behind each of them, if the kind has such
	lease             *plainLease
	told              []string // for each item
}

func newPlain(shards, room int) *plain {
	return &plain{room: room, rings: make([][]string, shards), marked: map[string]bool{}, bytes: map[string]string{}, last: -1}
}

func number(s string) int {
	n := 0
	for _, b := range []byte(s) {
		n = n*256 + int(b)
	}
	return n
}

func plainName(s string) string {
	sum := sha256.Sum256([]byte(s))
	return "\x00" + string([]byte{byte(len(s))}) + string(sum[:])
}

func plainParse(s string) (job *plainJob) {
	defer func() {
		if recover() != nil {
			job = nil
		}
	}()
	cut := func(n int) string {
		out := s[:n]
		s = s[n:]
		return out
	}
	from := func(low, high int) int {
		n := number(cut(1))
		if n < low || n > high {
			panic("no request")
		}
		return n
	}
	job = &plainJob{kind: from(1, 6), number: number(cut(2))}
	switch job.kind {
	case 1, 2, 3:
		if job.kind == 1 {
			job.ttl = from(1, 100)
		}
		for range from(1, 16) {
			name := cut(34)
			length := number(name[:2])
			if length > 120 {
				panic("no request")
			}
			job.things = append(job.things, name)
			if job.kind == 3 {
				job.bytes = append(job.bytes, cut(length))
			}
		}
	default:
		job.things = []string{cut(4)}
		if job.kind == 5 {
			job.bytes = []string{cut(from(0, 50))}
		}
	}
	if s != "" {
		panic("no request")
	}
	return job
}

func (p *plain) ring(name string) *[]string { return &p.rings[int(name[2])%len(p.rings)] }

func (p *plain) held(name string) bool { return slices.Contains(*p.ring(name), name) }

func (p *plain) pins(name string) int {
	n := 0
	for _, l := range p.leases {
		for _, other := range l.names {
			if other == name {
				n++
			}
		}
	}
	return n
}

func (p *plain) lengths(ring []string, pinned bool) int {
	n := 0
	for _, name := range ring {
		if !pinned || p.pins(name) > 0 {
			n += number(name[:2])
		}
	}
	return n
}

func (p *plain) store(blob string) int {
	name := plainName(blob)
	r := p.ring(name)
	if p.held(name) {
		p.marked[name] = true
		return 1
	}
	if len(blob) > p.room-p.lengths(*r, true) {
		return 3
	}
	for len(blob)+p.lengths(*r, false) > p.room {
		first := (*r)[0]
		*r = slices.Clone((*r)[1:])
		if p.pins(first) > 0 || p.marked[first] {
			p.marked[first] = p.marked[first] && p.pins(first) > 0
			*r = append(*r, first)
		}
	}
	*r = append(*r, name)
	p.marked[name], p.bytes[name] = false, blob
	return 1
}

func (p *plain) slots(shard int) []api.Slot {
	var out []api.Slot
	for _, name := range p.rings[shard] {
		out = append(out, api.Slot{Name: name, Marked: p.marked[name], Pins: p.pins(name)})
	}
	return out
}

func (p *plain) end(ends func(l *plainLease) bool) bool {
	was := len(p.leases)
	p.leases = slices.DeleteFunc(p.leases, ends)
	return len(p.leases) < was
}

func (p *plain) tick(n int) {
	p.now += n
	p.end(func(l *plainLease) bool { return l.given && l.deadline <= p.now })
}

func (p *plain) feed(c *plainConn, s string) api.Errno {
	if c.closed {
		return api.ErrClosed
	}
	if len(c.in+s) > 6000 {
		return api.ErrLong
	}
	c.in += s
	return api.OK
}

func (p *plain) close(c *plainConn) api.Errno {
	if c.closed {
		return api.ErrClosed
	}
	if c.job != nil {
		p.end(func(l *plainLease) bool { return l == c.job.lease })
	}
	*c = plainConn{out: c.out, closed: true}
	return api.OK
}

func (p *plain) take(c *plainConn, most int) string {
	taken := c.out[:min(most, len(c.out))]
	c.out = c.out[len(taken):]
	return taken
}

func (p *plain) pick(c *plainConn) int {
	switch {
	case c.job == nil:
		return p.begin(c)
	case len(c.job.told) < len(c.job.things):
		c.job.told = append(c.job.told, p.item(c.job, len(c.job.told)))
		return 2
	default:
		c.out += p.reply(c.job)
		c.job = nil
		return 3
	}
}

func (p *plain) serve(steps, stop int) int {
	taken := 0
	for taken < steps && (stop < 0 || taken < stop) && p.turn() {
		taken++
	}
	return taken
}

// turn lets the next one in turn take a step, if there is one.
func (p *plain) turn() bool {
	var behind, ahead []int
	for k := range p.conns {
		if k > p.last {
			behind = append(behind, k)
		} else {
			ahead = append(ahead, k)
		}
	}
	for _, k := range append(behind, ahead...) {
		if p.pick(p.conns[k]) != 0 {
			p.last = k
			return true
		}
	}
	return false
}

func (p *plain) begin(c *plainConn) int {
	if len(c.in) < 2 {
		return 0
	}
	length, refused := number(c.in[:2]), "\x00\x00"
	if length >= 1 && length <= 2000 {
		if len(c.in) < 2+length {
			return 0
		}
		if c.job = plainParse(c.in[2 : 2+length]); c.job != nil {
			c.in = c.in[2+length:]
			if c.job.kind == 1 && len(p.leases) < 20 {
				p.begun++
				c.job.lease = &plainLease{number: p.begun}
				p.leases = append(p.leases, c.job.lease)
			}
			return 1
		}
		if length >= 3 {
			refused = c.in[3:5]
		}
	}
	*c = plainConn{out: c.out + "\x00\x04\xff" + refused + "\x01", closed: true}
	return 4
}

func (p *plain) item(job *plainJob, i int) string {
	thing := job.things[i]
	switch job.kind {
	case 1:
		if !p.held(thing) {
			return "\x00"
		}
		if job.lease != nil {
			job.lease.names = append(job.lease.names, thing)
		}
		return "\x01"
	case 2:
		if !p.held(thing) {
			return "\x00"
		}
		p.marked[thing] = true
		return "\x01" + thing[:2] + p.bytes[thing]
	case 3:
		if plainName(job.bytes[i]) != thing {
			return "\x02"
		}
		return string([]byte{byte(p.store(job.bytes[i]))})
	case 6:
		if p.end(func(l *plainLease) bool { return l.given && l.number == number(thing) }) {
			return "\x01"
		}
		return "\x00"
	}
	at := slices.IndexFunc(p.actions, func(a [2]string) bool { return a[0] == thing })
	switch {
	case job.kind == 4 && at < 0:
		return "\x00"
	case job.kind == 4:
		return "\x01" + string([]byte{byte(len(p.actions[at][1]))}) + p.actions[at][1]
	case at >= 0:
		p.actions[at][1] = job.bytes[i]
	default:
		p.actions = append(p.actions, [2]string{thing, job.bytes[i]})
		p.actions = p.actions[max(0, len(p.actions)-32):]
	}
	return ""
}

func (p *plain) reply(job *plainJob) string {
	count := string([]byte{byte(len(job.things))})
	head := ""
	switch l := job.lease; {
	case l != nil:
		l.given, l.deadline = true, p.now+job.ttl
		head = "\x01" + string([]byte{byte(l.number >> 24), byte(l.number >> 16), byte(l.number >> 8), byte(l.number)}) + count
	case job.kind == 1:
		head = "\x00\x00\x00\x00\x00" + count
	case job.kind <= 3:
		head = count
	}
	return asks(job.kind+128, job.number, head+strings.Join(job.told, ""))
}
