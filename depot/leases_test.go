package depot_test

import (
	"math"
	"testing"

	"depot/api"
	"depot/depot"
)

// These tests are of P10, and of what P7 to P9 say of leases.

// lease asks for one of a blob, with the ttl 100, and holds its number against want.
func lease(t *testing.T, d *depot.Depot, blob string, want int) {
	t.Helper()
	ask(t, d, 0, api.Find, "\x64"+list(t, blob), 1, "\x01\x00\x00"+string([]byte{byte(want >> 8), byte(want)})+"\x01\x01")
}

func TestTick(t *testing.T) {
	d := talk(t, 1, 10, 0)
	now := 0
	for _, n := range []int{0, 1, 999, 1000, 1000, 0} {
		tick(t, d, n)
		now += n
		look(t, d, now, 0, 0, 0)
	}
	for _, n := range []int{-1, 1001, -1000, 1 << 32, -1 << 32, math.MinInt, math.MaxInt} {
		if e := d.Tick(n); e != api.ErrArg {
			t.Errorf("P10: Tick(%d): %d", n, e)
		}
		look(t, d, now, 0, 0, 0)
	}
}

func TestDeadline(t *testing.T) {
	for _, ttl := range []int{1, 2, 99, 100} {
		d := talk(t, 1, 10, 1)
		bulk(t, d, []int{1}, "aaaa")
		tick(t, d, 7)
		ask(t, d, 0, api.Find, string([]byte{byte(ttl)})+list(t, "aaaa"), 1, "\x01\x00\x00\x00\x01\x01\x01")
		tick(t, d, 0)
		tick(t, d, ttl-1)
		check(t, d, 0, "aaaa!")
		look(t, d, 7+ttl-1, 1, 0, 1)
		tick(t, d, 0)
		check(t, d, 0, "aaaa!")
		tick(t, d, 1)
		check(t, d, 0, "aaaa")
		look(t, d, 7+ttl, 0, 0, 1)
		ask(t, d, 0, api.Release, "\x00\x00\x00\x01", 1, "\x00")
	}
}

func TestDeadlinesAreGoneByAtOnce(t *testing.T) {
	d := talk(t, 1, 10, 1)
	bulk(t, d, []int{1, 1}, "aaaa", "bb")
	ask(t, d, 0, api.Find, "\x09"+list(t, "aaaa"), 1, "\x01\x00\x00\x00\x01\x01\x01")
	ask(t, d, 0, api.Find, "\x05"+list(t, "aaaa", "bb"), 2, "\x01\x00\x00\x00\x02\x02\x01\x01")
	ask(t, d, 0, api.Find, "\x0b"+list(t, "bb", "bb"), 2, "\x01\x00\x00\x00\x03\x02\x01\x01")
	check(t, d, 0, "aaaa!!", "bb!!!")
	tick(t, d, 10)
	check(t, d, 0, "aaaa", "bb!!")
	look(t, d, 10, 1, 0, 1)
	tick(t, d, 1000)
	check(t, d, 0, "aaaa", "bb")
	look(t, d, 1010, 0, 0, 1)
}

// A lease that was only begun has no deadline and can't be released; its
// deadline is the time when it is given, and the ttl.
func TestALeaseThatWasBegun(t *testing.T) {
	d := talk(t, 1, 10, 2)
	bulk(t, d, []int{1}, "aaaa")
	feed(t, d, 0, asks(api.Find, 1, "\x01"+list(t, "aaaa")), api.OK)
	pick(t, d, 0, "1")
	look(t, d, 0, 1, 0, 2)
	check(t, d, 0, "aaaa")
	ask(t, d, 1, api.Release, "\x00\x00\x00\x01", 1, "\x00")
	pick(t, d, 0, "2")
	tick(t, d, 1000)
	ask(t, d, 1, api.Release, "\x00\x00\x00\x01", 1, "\x00")
	check(t, d, 0, "aaaa!")
	look(t, d, 1000, 1, 0, 2)
	pick(t, d, 0, "3")
	tick(t, d, 0)
	check(t, d, 0, "aaaa!")
	tick(t, d, 1)
	check(t, d, 0, "aaaa")
	look(t, d, 1001, 0, 0, 2)
	take(t, d, 0, asks(129, 1, "\x01\x00\x00\x00\x01\x01\x01"))
}

func TestRelease(t *testing.T) {
	d := talk(t, 1, 10, 1)
	bulk(t, d, []int{1, 1}, "aaaa", "bb")
	for _, number := range []string{"\x00\x00\x00\x00", "\x00\x00\x00\x01", "\xff\xff\xff\xff", "\x80\x00\x00\x00"} {
		ask(t, d, 0, api.Release, number, 1, "\x00")
	}
	lease(t, d, "aaaa", 1)
	lease(t, d, "aaaa", 2)
	lease(t, d, "bb", 3)
	for _, number := range []string{"\x00\x00\x00\x00", "\x00\x00\x00\x04", "\x01\x00\x00\x01", "\x01\x00\x00\x00", "\x00\x00\x01\x02", "\xff\xff\xff\xff"} {
		ask(t, d, 0, api.Release, number, 1, "\x00")
	}
	check(t, d, 0, "aaaa!!", "bb!")
	ask(t, d, 0, api.Release, "\x00\x00\x00\x02", 1, "\x01")
	check(t, d, 0, "aaaa!", "bb!")
	look(t, d, 0, 2, 0, 1)
	ask(t, d, 0, api.Release, "\x00\x00\x00\x02", 1, "\x00")
	ask(t, d, 0, api.Release, "\x00\x00\x00\x03", 1, "\x01")
	ask(t, d, 0, api.Release, "\x00\x00\x00\x01", 1, "\x01")
	check(t, d, 0, "aaaa", "bb")
	look(t, d, 0, 0, 0, 1)
}

// A lease ends at the item of Release; the reply tells of that time.
func TestReleaseAtTheItem(t *testing.T) {
	d := talk(t, 1, 10, 2)
	bulk(t, d, []int{1}, "aaaa")
	lease(t, d, "aaaa", 1)
	feed(t, d, 1, asks(api.Release, 1, "\x00\x00\x00\x01"), api.OK)
	pick(t, d, 1, "1")
	check(t, d, 0, "aaaa!")
	pick(t, d, 1, "2")
	check(t, d, 0, "aaaa")
	pick(t, d, 1, "3")
	take(t, d, 1, asks(134, 1, "\x01"))
}

func TestAsManyLeasesAsMayBe(t *testing.T) {
	d := talk(t, 1, 10, 2)
	bulk(t, d, []int{1, 1}, "aaaa", "bb")
	feed(t, d, 1, asks(api.Find, 9, "\x64"+list(t, "aaaa")), api.OK)
	pick(t, d, 1, "1") // one that was begun counts, too
	for i := range 19 {
		lease(t, d, "aaaa", 2+i)
	}
	look(t, d, 0, 20, 0, 2)
	none := "\x00\x00\x00\x00\x00\x03\x01\x00\x01"
	ask(t, d, 0, api.Find, "\x64"+list(t, "aaaa", "x", "bb"), 3, none)
	look(t, d, 0, 20, 0, 2)
	check(t, d, 0, "aaaa!!!!!!!!!!!!!!!!!!!", "bb")
	feed(t, d, 0, asks(api.Find, 1, "\x64"+list(t, "aaaa", "x", "bb")), api.OK)
	pick(t, d, 0, "1")
	d.Close(1) // room for a lease, but the Find has begun without one
	look(t, d, 0, 19, 0, 2)
	pick(t, d, 0, "2223")
	take(t, d, 0, asks(129, 1, none))
	check(t, d, 0, "aaaa!!!!!!!!!!!!!!!!!!!", "bb")
	lease(t, d, "bb", 21)
	look(t, d, 0, 20, 0, 2)
	tick(t, d, 100)
	check(t, d, 0, "aaaa", "bb")
	look(t, d, 100, 0, 0, 2)
}

// A Find that has begun without a lease leaves nothing behind when it is dropped.
func TestDroppedWithoutALease(t *testing.T) {
	d := talk(t, 1, 10, 2)
	bulk(t, d, []int{1}, "aaaa")
	for i := range 20 {
		lease(t, d, "aaaa", 1+i)
	}
	feed(t, d, 1, asks(api.Find, 1, "\x64"+list(t, "aaaa")), api.OK)
	pick(t, d, 1, "12")
	d.Close(1)
	check(t, d, 0, "aaaa!!!!!!!!!!!!!!!!!!!!")
	look(t, d, 0, 20, 0, 2)
}

func TestNumbersOfLeases(t *testing.T) {
	d := talk(t, 1, 10, 1)
	bulk(t, d, []int{1}, "aaaa")
	for i := 1; i <= 300; i++ {
		lease(t, d, "aaaa", i)
		ask(t, d, 0, api.Release, "\x00\x00"+string([]byte{byte(i >> 8), byte(i)}), 1, "\x01")
	}
}

// The numbers are in the order in which leases were begun, not given.
func TestTheOrderOfLeases(t *testing.T) {
	d := talk(t, 1, 10, 3)
	find := asks(api.Find, 1, "\x05"+list(t, "aaaa"))
	for _, c := range []int{2, 0, 1} {
		feed(t, d, c, find, api.OK)
		pick(t, d, c, "1")
	}
	for _, c := range []struct{ conn, lease int }{{0, 2}, {1, 3}, {2, 1}} {
		pick(t, d, c.conn, "230")
		take(t, d, c.conn, asks(129, 1, "\x01\x00\x00\x00"+string([]byte{byte(c.lease)})+"\x01\x00"))
	}
}

// What a lease holds stays, whatever comes in.
func TestALeaseKeepsBlobs(t *testing.T) {
	d := talk(t, 1, 10, 1)
	bulk(t, d, []int{1, 1}, "aaaa", "bb")
	lease(t, d, "aaaa", 1)
	bulk(t, d, []int{1, 1, 3, 1, 1}, "cc", "dddddd", "7 bytes", "eeee", "ff")
	check(t, d, 0, "aaaa!", "eeee", "ff")
	ask(t, d, 0, api.Read, list(t, "aaaa"), 1, "\x01\x01\x00\x04aaaa")
	tick(t, d, 100)
	bulk(t, d, []int{1}, "7 bytes")
	check(t, d, 0, "7 bytes")
}

// The calls that are refused change nothing.
func TestRefusedCallsChangeNothing(t *testing.T) {
	d := talk(t, 2, 20, 2)
	bulk(t, d, []int{1, 1}, "aaaa", "bb")
	ask(t, d, 0, api.Put, "key1\x01v", 1, "")
	lease(t, d, "aaaa", 1)
	feed(t, d, 0, asks(api.Find, 1, "\x05"+list(t, "aaaa", "bb")), api.OK)
	pick(t, d, 0, "12")
	d.Close(1)
	before := all(t, d)
	for _, n := range []int{math.MinInt, -1, 2, math.MaxInt} {
		d.Feed(n, "x")
		d.Pick(n)
		d.Take(n, 5)
		d.Close(n)
		d.Tick(-1)
		d.Tick(1001)
		d.Take(0, -1)
		d.Close(1)
		d.Feed(1, "x")
		d.Feed(0, string(make([]byte, 6001)))
	}
	look(t, d, 0, 2, 1, 2)
	if !same(all(t, d), before) {
		t.Errorf("P1: a call that was refused changed the depot: %v", all(t, d))
	}
	pick(t, d, 0, "230")
	take(t, d, 0, asks(129, 1, "\x01\x00\x00\x00\x02\x02\x01\x01"))
}
