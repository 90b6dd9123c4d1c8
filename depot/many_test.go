package depot_test

import (
	"maps"
	"math"
	"math/rand"
	"slices"
	"strings"
	"testing"

	"depot/api"
	"depot/depot"
)

// junk is no kind of request: what goes out for it has 128 more, as a reply.
const junk = api.Refused - 128

// clients speak to a depot over all of its connections at once. They look whether
// P12 holds by what they asked, what they were told, and what Ring and Look show:
// how it comes about they do not know.
type clients struct {
	*rand.Rand
	t      *testing.T
	seed   int64
	room   int
	d      *depot.Depot
	now    int
	asked  int                  // how many requests were made: the last one's number
	over   [api.MaxConns]bool   // nothing more is asked there
	rest   [api.MaxConns]string // what was asked and did not come in yet
	waits  [api.MaxConns][]question
	leases map[int]*given // those that were given and have not ended
	seen   map[string]int // how often there was what is to be looked at
}

// question is a request that has no reply yet.
type question struct {
	kind, number, ttl, lease int
	names                    []string
}

type given struct {
	deadline int
	names    []string // one for each place in its list
	since    int      // the number of the last request that may have been done ahead of it
	releases int      // how many were asked and not told: with one, it may have ended
}

func (c *clients) fail(what string, args ...any) {
	c.t.Helper()
	c.t.Fatalf("P12: seed %d, behind %d requests: "+what, append([]any{c.seed, c.asked}, args...)...)
}

func (c *clients) act() {
	k := c.Intn(api.MaxConns)
	switch n := c.Intn(60); {
	case n < 24:
		c.ask(k)
	case n < 44:
		c.d.Serve(c.Intn(12), c.Intn(24)-8)
	case n < 54:
		c.d.Pick(k)
	case n < 56:
		c.tick(c.Intn(20))
	case n < 57:
		c.d.Bulk([]string{c.blob(), c.blob()})
	case n < 58 && c.Intn(12) == 0:
		c.hangUp(k)
	default:
		c.quiet()
	}
	c.listen()
	c.look()
}

func (c *clients) blob() string {
	n := c.Intn(30)
	return strings.Repeat(string(rune('a'+n)), n/3)
}

// ask makes a request; some of it, and of those ahead of it, comes in.
func (c *clients) ask(k int) {
	if c.over[k] {
		return
	}
	c.asked++
	q := question{kind: 1 + c.Intn(6), number: c.asked}
	switch n := c.Intn(400); {
	case n < 150:
		q.kind = 1 + int(c.seed%6) // each kind in some scripts more often
	case n == 399:
		q.kind = junk
		c.over[k] = true
	}
	c.rest[k] += asks(q.kind, q.number, c.body(&q))
	c.waits[k] = append(c.waits[k], q)
	c.feed(k, c.Intn(len(c.rest[k])+1))
}

func (c *clients) body(q *question) string {
	switch q.kind {
	case api.Find:
		q.ttl = 1 + c.Intn(100)
		return string([]byte{byte(q.ttl)}) + c.list(q, false)
	case api.Read:
		return c.list(q, false)
	case api.Update:
		return c.list(q, true)
	case api.Get:
		return "key1"
	case api.Put:
		return "key1\x02hi"
	case api.Release:
		return c.release(q)
	}
	return ""
}

func (c *clients) list(q *question, whole bool) string {
	out := string([]byte{byte(1 + c.Intn(6))})
	for range out[0] {
		b := c.blob()
		q.names = append(q.names, plainName(b))
		out += plainName(b)
		if whole && c.Intn(4) == 0 {
			b = strings.Repeat("w", len(b))
		}
		if whole {
			out += b
		}
	}
	return out
}

// release asks for the end of one of the leases, or of one that there is not. (Not
// of one that was begun: whether it was given ahead of the Release nobody knows.)
func (c *clients) release(q *question) string {
	if known := slices.Sorted(maps.Keys(c.leases)); len(known) > 0 && c.Intn(5) > 0 {
		q.lease = known[c.Intn(len(known))]
		c.leases[q.lease].releases++
	}
	return string([]byte{byte(q.lease >> 24), byte(q.lease >> 16), byte(q.lease >> 8), byte(q.lease)})
}

// feed lets bytes come in, unless too many wait.
func (c *clients) feed(k, bytes int) {
	switch e := c.d.Feed(k, c.rest[k][:bytes]); e {
	case api.OK:
		c.rest[k] = c.rest[k][bytes:]
	case api.ErrLong:
		// they come in later
	default:
		c.fail("connection %d: Feed: %d, and %d requests wait", k, e, len(c.waits[k]))
	}
}

func (c *clients) tick(n int) {
	tick(c.t, c.d, n)
	c.now += n
	for number, l := range c.leases {
		if l.deadline <= c.now {
			delete(c.leases, number)
			c.seen["a deadline"]++
		}
	}
}

// hangUp closes a connection, unless a Release waits there: its lease may have
// ended, and nobody would hear.
func (c *clients) hangUp(k int) {
	if slices.ContainsFunc(c.waits[k], func(q question) bool { return q.kind == api.Release }) {
		return
	}
	c.d.Close(k)
	c.over[k], c.rest[k], c.waits[k] = true, "", nil
	c.seen["a closed connection"]++
}

// listen takes what goes out.
func (c *clients) listen() {
	for k := range c.waits {
		out, _ := c.d.Take(k, most)
		for len(out) > 0 {
			n := 2 + number(out[:2])
			c.hear(k, out[2:n])
			out = out[n:]
		}
	}
}

// hear holds a reply against the request that is the next to have one.
func (c *clients) hear(k int, reply string) {
	if len(c.waits[k]) == 0 {
		c.fail("connection %d: the reply %x, and no request waits for one", k, reply)
	}
	q := c.waits[k][0]
	c.waits[k] = c.waits[k][1:]
	if int(reply[0]) != q.kind+128 || number(reply[1:3]) != q.number&0xffff {
		c.fail("connection %d: the reply %x, but the next request is %d, of the kind %d", k, reply, q.number, q.kind)
	}
	switch body := reply[3:]; q.kind {
	case api.Find:
		c.hearFind(q, body)
	case api.Read:
		c.hearRead(q, body)
	case api.Release:
		c.hearRelease(q, body)
	case junk:
		c.seen["a refusal"]++
	}
}

func (c *clients) hearFind(q question, body string) {
	l := &given{deadline: c.now + q.ttl, since: c.asked}
	for i, name := range q.names {
		held := body[6+i] == 1
		c.told(q, name, held)
		if held {
			l.names = append(l.names, name)
		}
	}
	if body[0] == 0 {
		c.seen["no lease"]++
		return
	}
	c.leases[number(body[1:5])] = l
}

func (c *clients) hearRead(q question, body string) {
	body = body[1:]
	for _, name := range q.names {
		held := body[0] == 1
		c.told(q, name, held)
		body = body[1:]
		if !held {
			continue
		}
		n := number(body[:2])
		if !has(body[2:2+n], name) {
			c.fail("a Read of %x tells %q", name, body[2:2+n])
		}
		c.seen["bytes of a Read"]++
		body = body[2+n:]
	}
}

func (c *clients) hearRelease(q question, body string) {
	l := c.leases[q.lease]
	switch {
	case body == "\x01":
		delete(c.leases, q.lease)
		c.seen["a release"]++
	case l != nil && l.releases == 1:
		c.fail("the lease %d was given and has not ended: Release tells %x", q.lease, body)
	case l != nil: // another Release has ended it, and will be told so
		l.releases--
	}
}

// told looks whether a blob that a lease held, from ahead of the request until
// now, was told as held.
func (c *clients) told(q question, name string, held bool) {
	for number, l := range c.leases {
		if l.releases > 0 || l.since >= q.number || !slices.Contains(l.names, name) {
			continue
		}
		if !held {
			c.fail("the lease %d holds %x, and the request %d, of the kind %d, is told that it is not held", number, name, q.number, q.kind)
		}
		c.seen["a held blob"]++
	}
}

// look goes through the shards: their bytes, and at least the pins of the leases.
func (c *clients) look() {
	pins := c.pins()
	for _, l := range c.leases {
		for _, name := range l.names {
			if l.releases == 0 {
				pins[name]--
			}
		}
	}
	for name, n := range pins {
		if n < 0 {
			c.fail("the blob of %x has %d pins too few", name, -n)
		}
	}
}

// pins tells those of all blobs, and holds the bytes against the lengths.
func (c *clients) pins() map[string]int {
	out := map[string]int{}
	for k, bytes := range c.d.Look().Bytes {
		together := 0
		for _, s := range ring(c.t, c.d, k) {
			together += number(s.Name[:2])
			out[s.Name] += s.Pins
		}
		if bytes != together || bytes > c.room {
			c.fail("the shard %d of the room %d has %d bytes, its blobs have %d", k, c.room, bytes, together)
		}
	}
	return out
}

// quiet lets all that was asked come in and be done: then each request must have
// its reply, and of pins and leases there are just those that were told.
func (c *clients) quiet() {
	c.d.Serve(math.MaxInt, -1)
	for k := range c.rest {
		for len(c.rest[k]) > 0 {
			c.feed(k, min(len(c.rest[k]), api.MaxFrame))
			c.d.Serve(math.MaxInt, math.MaxInt)
		}
	}
	c.listen()
	for k := range c.waits {
		if len(c.waits[k]) > 0 {
			c.fail("connection %d: %d requests have no reply", k, len(c.waits[k]))
		}
	}
	pins := c.pins()
	for _, l := range c.leases {
		for _, name := range l.names {
			pins[name]--
		}
	}
	for name, n := range pins {
		if n != 0 {
			c.fail("the blob of %x has %d pins more than it stands in lists", name, n)
		}
	}
	if got := c.d.Look().Leases; got != len(c.leases) {
		c.fail("there are %d leases, %d were told", got, len(c.leases))
	}
	c.seen["quiet"]++
}

func TestManyAtOnce(t *testing.T) {
	seen := map[string]int{"a deadline": 0, "a closed connection": 0, "a refusal": 0, "no lease": 0,
		"bytes of a Read": 0, "a release": 0, "a held blob": 0, "quiet": 0}
	for seed := range int64(60) {
		r := rand.New(rand.NewSource(seed))
		shards, room := 1+r.Intn(3), 1+r.Intn(80)
		c := &clients{Rand: r, t: t, seed: seed, room: room, d: talk(t, shards, room, api.MaxConns), leases: map[int]*given{}, seen: seen}
		for range 1500 {
			c.act()
		}
		c.quiet()
	}
	for what, times := range seen {
		if times == 0 {
			t.Errorf("there never was %s", what)
		}
	}
}
