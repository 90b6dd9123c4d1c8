package depot_test

import (
	"math"
	"strings"
	"testing"

	"depot/api"
)

// These tests are of P6: connections, and the bytes that come in and go out.

func TestOpen(t *testing.T) {
	d := talk(t, 1, 10, 0)
	for i := range api.MaxConns {
		look(t, d, 0, 0, 0, i)
		if n, e := d.Open(); n != i || e != api.OK {
			t.Errorf("P6: Open = %d, %d, want %d", n, e, i)
		}
		feed(t, d, i, "", api.OK)
		pick(t, d, i, "0")
		take(t, d, i, "")
	}
	for range 3 {
		if n, e := d.Open(); n != 0 || e != api.ErrMany {
			t.Errorf("P6: one connection more than may be: %d, %d", n, e)
		}
	}
	d.Close(7)
	if n, e := d.Open(); n != 0 || e != api.ErrMany {
		t.Errorf("P6: a connection that was closed counts as opened: %d, %d", n, e)
	}
	look(t, d, 0, 0, 0, 8)
}

func TestNoSuchConnection(t *testing.T) {
	for _, conns := range []int{0, 1, 7, 8} {
		d := talk(t, 1, 10, conns)
		for _, c := range []int{math.MinInt, -256, -1, conns, conns + 1, 256, 1 << 32, math.MaxInt} {
			feed(t, d, c, "", api.ErrConn)
			feed(t, d, c, strings.Repeat("x", 7000), api.ErrConn)
			if n, e := d.Pick(c); n != 0 || e != api.ErrConn {
				t.Errorf("P7: Pick(%d) of %d connections: %d, %d", c, conns, n, e)
			}
			for _, m := range []int{math.MinInt, -1, 0, most} {
				if s, e := d.Take(c, m); s != "" || e != api.ErrConn {
					t.Errorf("P6: Take(%d, %d) of %d connections: %q, %d", c, m, conns, s, e)
				}
			}
			if e := d.Close(c); e != api.ErrConn {
				t.Errorf("P6: Close(%d) of %d connections: %d", c, conns, e)
			}
		}
		look(t, d, 0, 0, 0, conns)
	}
}

func TestHowMuchMayWait(t *testing.T) {
	d := talk(t, 1, 10, 2)
	feed(t, d, 0, strings.Repeat("\x01", 6001), api.ErrLong)
	feed(t, d, 0, strings.Repeat("\x01", 1<<20), api.ErrLong)
	pick(t, d, 0, "0") // nothing of it came in
	get := asks(api.Get, 1, "key1")
	feed(t, d, 0, get, api.OK)
	feed(t, d, 0, strings.Repeat("\x01", 6000-len(get)+1), api.ErrLong)
	feed(t, d, 0, strings.Repeat("\x01", 6000-len(get)), api.OK)
	feed(t, d, 0, "", api.OK)
	feed(t, d, 0, "\x01", api.ErrLong)
	feed(t, d, 1, strings.Repeat("\x01", 6000), api.OK)
	pick(t, d, 0, "1") // the frame's bytes do not wait any more
	feed(t, d, 0, strings.Repeat("\x01", len(get)+1), api.ErrLong)
	feed(t, d, 0, strings.Repeat("\x01", len(get)), api.OK)
	feed(t, d, 0, "\x01", api.ErrLong)
}

func TestBytesComeInBehindOthers(t *testing.T) {
	d := talk(t, 1, 10, 1)
	all := asks(api.Put, 1, "key1\x02hi") + asks(api.Get, 2, "key1") + asks(api.Get, 3, "key2")
	for i := range len(all) {
		feed(t, d, 0, all[i:i+1], api.OK)
		if i == 5 {
			pick(t, d, 0, "00")
		}
	}
	pick(t, d, 0, "1231231230")
	take(t, d, 0, asks(133, 1, "")+asks(132, 2, "\x01\x02hi")+asks(132, 3, "\x00"))
}

func TestTake(t *testing.T) {
	d := talk(t, 1, 10, 2)
	feed(t, d, 0, asks(api.Get, 1, "key1")+asks(api.Get, 2, "key2"), api.OK)
	pick(t, d, 0, "1231230")
	for _, m := range []int{-1, -2, math.MinInt32, math.MinInt} {
		if s, e := d.Take(0, m); s != "" || e != api.ErrArg {
			t.Errorf("P6: Take(0, %d) = %q, %d", m, s, e)
		}
	}
	for _, c := range []struct {
		most int
		want string
	}{
		{0, ""}, {1, "\x00"}, {6, "\x04\x84\x00\x01\x00\x00"}, {0, ""}, {math.MaxInt, "\x04\x84\x00\x02\x00"}, {5, ""}, {math.MaxInt, ""},
	} {
		if s, e := d.Take(0, c.most); s != c.want || e != api.OK {
			t.Errorf("P6: Take(0, %d) = %q, %d, want %q", c.most, s, e, c.want)
		}
		take(t, d, 1, "")
	}
	ask(t, d, 0, api.Get, "key1", 1, "\x00")
}

func TestClose(t *testing.T) {
	d := talk(t, 1, 10, 2)
	get := asks(api.Get, 1, "key1")
	feed(t, d, 0, get+get+get, api.OK)
	feed(t, d, 1, get, api.OK)
	pick(t, d, 0, "12312")
	if e := d.Close(0); e != api.OK {
		t.Errorf("P6: Close: %d", e)
	}
	for range 2 {
		if e := d.Close(0); e != api.ErrClosed {
			t.Errorf("P6: Close of a closed connection: %d", e)
		}
		feed(t, d, 0, "", api.ErrClosed)
		feed(t, d, 0, strings.Repeat("x", 7000), api.ErrClosed)
		pick(t, d, 0, "000")
	}
	if s, e := d.Take(0, -1); s != "" || e != api.ErrArg {
		t.Errorf("P6: Take(0, -1) of a closed connection: %q, %d", s, e)
	}
	if s, e := d.Take(0, 3); s != "\x00\x04\x84" || e != api.OK {
		t.Errorf("P6: what goes out of a closed connection: %q, %d", s, e)
	}
	take(t, d, 0, "\x00\x01\x00")
	take(t, d, 0, "")
	pick(t, d, 1, "1230")
	take(t, d, 1, asks(132, 1, "\x00"))
	look(t, d, 0, 0, 0, 2)
}

func TestCloseDropsARequestWithItsLease(t *testing.T) {
	for _, steps := range []string{"", "1", "12", "122", "1222"} {
		d := talk(t, 3, 10, 2)
		bulk(t, d, []int{1, 1}, "aaaa", "bb")
		before := all(t, d)
		feed(t, d, 0, asks(api.Find, 1, "\x05"+list(t, "aaaa", "bb", "aaaa")), api.OK)
		pick(t, d, 0, steps)
		look(t, d, 0, min(len(steps), 1), 0, 2)
		d.Close(0)
		look(t, d, 0, 0, 0, 2)
		if !same(all(t, d), before) {
			t.Errorf("P6, P10: behind the steps %q pins outlive the connection: %v", steps, all(t, d))
		}
		pick(t, d, 0, "0")
		take(t, d, 0, "")
	}
}

func TestCloseLeavesLeasesThatWereGiven(t *testing.T) {
	d := talk(t, 1, 10, 2)
	bulk(t, d, []int{1}, "aaaa")
	ask(t, d, 0, api.Find, "\x05"+list(t, "aaaa"), 1, "\x01\x00\x00\x00\x01\x01\x01")
	feed(t, d, 0, asks(api.Find, 1, "\x05"+list(t, "aaaa")), api.OK)
	pick(t, d, 0, "12")
	check(t, d, 0, "aaaa!!")
	d.Close(0)
	check(t, d, 0, "aaaa!")
	look(t, d, 0, 1, 0, 2)
	ask(t, d, 1, api.Release, "\x00\x00\x00\x02", 1, "\x00")
	ask(t, d, 1, api.Release, "\x00\x00\x00\x01", 1, "\x01")
	check(t, d, 0, "aaaa")
}

// What items did ahead of the closing stays done.
func TestCloseDropsTheRestAlone(t *testing.T) {
	d := talk(t, 1, 10, 1)
	feed(t, d, 0, asks(api.Update, 1, stock(t, "aa", "bb", "cc")), api.OK)
	pick(t, d, 0, "122")
	d.Close(0)
	check(t, d, 0, "aa", "bb")
	take(t, d, 0, "")
}

// A lease that a Release has ended stays so, though nobody hears the reply; ahead
// of the item it is not ended.
func TestCloseOfAConnectionThatReleases(t *testing.T) {
	for steps, want := range map[string]string{"": "aaaa!", "1": "aaaa!", "12": "aaaa"} {
		d := talk(t, 1, 10, 2)
		bulk(t, d, []int{1}, "aaaa")
		ask(t, d, 0, api.Find, "\x05"+list(t, "aaaa"), 1, "\x01\x00\x00\x00\x01\x01\x01")
		feed(t, d, 1, asks(api.Release, 1, "\x00\x00\x00\x01"), api.OK)
		serve(t, d, len(steps), -1, len(steps))
		d.Close(1)
		check(t, d, 0, want)
		look(t, d, 0, strings.Count(want, "!"), 0, 2)
		serve(t, d, 9, -1, 0)
		take(t, d, 1, "")
	}
}
