package depot_test

import (
	"math"
	"math/rand"
	"slices"
	"strconv"
	"strings"
	"testing"

	"depot/api"
	"depot/depot"
)

// script makes the same random calls on a depot and on a plain one.
type script struct {
	*rand.Rand
	t         *testing.T
	seed      int64
	favourite int // a kind of request
	d         *depot.Depot
	p         *plain
	pending   []string       // of each connection, what it will be fed with
	reached   map[string]int // how often steps were taken and bounds met
}

func (s *script) blob() string {
	n := s.Intn(24)
	return strings.Repeat(string(rune('a'+n)), n/2)
}

func (s *script) byte(high int) string { return string([]byte{byte(s.Intn(high + 1))}) }

// request makes one, now and then one that is none.
func (s *script) request() string {
	kind := 1 + s.Intn(6)
	if s.Intn(2) == 0 {
		kind = s.favourite
	}
	body := ""
	switch kind {
	case api.Find:
		body = string([]byte{byte(1 + s.Intn(100))})
		if s.Intn(40) == 0 {
			body = s.byte(255)
		}
		body += s.blobs(false)
	case api.Read:
		body = s.blobs(false)
	case api.Update:
		body = s.blobs(true)
	case api.Get:
		body = "key" + s.byte(40)
	case api.Put:
		n := s.Intn(51)
		body = "key" + s.byte(40) + string([]byte{byte(n)}) + strings.Repeat(s.byte(255), n)
	case api.Release:
		body = "\x00\x00" + string([]byte{byte(s.p.begun >> 8), byte(max(0, s.p.begun-s.Intn(25)))})
	}
	out := asks(kind, s.Intn(1<<16), body)
	if s.Intn(60) == 0 {
		at := s.Intn(len(out))
		out = out[:at] + s.byte(255) + out[at+1:]
	}
	return out
}

func (s *script) blobs(whole bool) string {
	n := 1 + s.Intn(1+s.Intn(16))
	if s.Intn(60) == 0 {
		n = s.Intn(19)
	}
	out := string([]byte{byte(n)})
	for range n {
		b := s.blob()
		out += plainName(b)
		if whole && s.Intn(8) == 0 {
			b = strings.Repeat("w", len(b))
		}
		if whole {
			out += b
		}
	}
	return out
}

// call makes one call; some are of connections that there are not.
func (s *script) call() {
	c := s.Intn(len(s.p.conns)+1) - s.Intn(2)
	if c < 0 || c >= len(s.p.conns) {
		s.noConn(c)
		return
	}
	switch n := s.Intn(100); {
	case n < 2:
		s.open()
	case n < 25:
		s.feed(c)
	case n < 27:
		most := s.Intn(200)
		got, e := s.d.Take(c, most)
		s.same("Take", got, s.p.take(s.p.conns[c], most), e, api.OK)
	case n < 28 && s.Intn(4) == 0:
		s.same("Close", 0, 0, s.d.Close(c), s.p.close(s.p.conns[c]))
	case n < 31:
		ticks := s.Intn(12)
		s.same("Tick", 0, 0, s.d.Tick(ticks), api.OK)
		s.p.tick(ticks)
	case n < 33:
		s.bulk()
	case n < 45:
		s.serve()
	default:
		got, e := s.d.Pick(c)
		s.same("Pick", got, s.p.pick(s.p.conns[c]), e, api.OK)
		s.reached[strconv.Itoa(got)]++
	}
}

func (s *script) same(what string, got, want any, gotErr, wantErr api.Errno) {
	s.t.Helper()
	if got != want || gotErr != wantErr {
		s.t.Fatalf("seed %d: %s: %#v, %d, want %#v, %d", s.seed, what, got, gotErr, want, wantErr)
	}
}

func (s *script) noConn(c int) {
	n, e := s.d.Pick(c)
	s.same("Pick", n, 0, e, api.ErrConn)
	text, e := s.d.Take(c, 1)
	s.same("Take", text, "", e, api.ErrConn)
	s.same("Feed", 0, 0, s.d.Feed(c, "x"), api.ErrConn)
	s.same("Close", 0, 0, s.d.Close(c), api.ErrConn)
}

func (s *script) open() {
	n, e := s.d.Open()
	if len(s.p.conns) == 8 {
		s.same("Open", n, 0, e, api.ErrMany)
		return
	}
	s.same("Open", n, len(s.p.conns), e, api.OK)
	s.p.conns = append(s.p.conns, &plainConn{})
	s.pending = append(s.pending, "")
}

func (s *script) feed(c int) {
	for range 1 + s.Intn(2) {
		s.pending[c] += s.request()
	}
	if s.Intn(300) == 0 {
		s.pending[c] += strings.Repeat("\x00\x07\x04\x00\x01long", 800)
	}
	n := s.Intn(len(s.pending[c]) + 1)
	want := s.p.feed(s.p.conns[c], s.pending[c][:n])
	s.same("Feed", 0, 0, s.d.Feed(c, s.pending[c][:n]), want)
	if want == api.ErrLong {
		s.reached["ErrLong"]++
	} else {
		s.pending[c] = s.pending[c][n:]
	}
	if len(s.pending[c]) > 9000 {
		s.pending[c] = ""
	}
}

func (s *script) serve() {
	steps, stop := s.Intn(12)-1, s.Intn(40)-20
	if s.Intn(8) == 0 {
		steps = math.MaxInt
	}
	got := s.d.Serve(steps, stop)
	s.same("Serve", got, s.p.serve(steps, stop), 0, 0)
	switch {
	case got > 0 && got == stop && got < steps:
		s.reached["a stop"]++
	case got > 0 && got == steps:
		s.reached["all steps"]++
	case got < steps && got != stop:
		s.reached["no more steps"]++
	}
}

func (s *script) bulk() {
	var blobs []string
	var want []int
	for range s.Intn(6) {
		b := s.blob()
		blobs = append(blobs, b)
		want = append(want, s.p.store(b))
	}
	if got, e := s.d.Bulk(blobs); !slices.Equal(got, want) || e != api.OK {
		s.t.Fatalf("seed %d: Bulk(%q) = %v, %d, want %v", s.seed, blobs, got, e, want)
	}
}

func (s *script) check() {
	s.t.Helper()
	v := s.d.Look()
	s.same("Look", [4]int{v.Now, v.Leases, v.Actions, v.Conns}, [4]int{s.p.now, len(s.p.leases), len(s.p.actions), len(s.p.conns)}, 0, 0)
	for k, names := range s.p.rings {
		s.same("Look, of a shard's bytes", v.Bytes[k], s.p.lengths(names, false), 0, 0)
		if got, want := ring(s.t, s.d, k), s.p.slots(k); !slices.Equal(got, want) {
			s.t.Fatalf("seed %d: Ring(%d) = %v, want %v", s.seed, k, got, want)
		}
	}
	if len(s.p.leases) == 20 {
		s.reached["20 leases"]++
	}
	if len(s.p.actions) == 32 {
		s.reached["32 actions"]++
	}
}

func TestAgainstPlain(t *testing.T) {
	reached := map[string]int{"ErrLong": 0, "20 leases": 0, "32 actions": 0, "0": 0, "1": 0, "2": 0, "3": 0, "4": 0,
		"a stop": 0, "all steps": 0, "no more steps": 0}
	for seed := range int64(150) {
		r := rand.New(rand.NewSource(seed))
		shards, room := 1+r.Intn(4), 1+r.Intn(60)
		s := &script{Rand: r, t: t, seed: seed, favourite: 1 + int(seed%6), d: start(t, shards, room), p: newPlain(shards, room), reached: reached}
		s.open()
		for range 2000 {
			s.call()
			s.check()
		}
	}
	for what, times := range reached {
		if times == 0 {
			t.Errorf("the scripts never came to %s", what)
		}
	}
}
