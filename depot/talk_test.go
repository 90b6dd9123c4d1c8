package depot_test

import (
	"strconv"
	"strings"
	"testing"

	"depot/api"
	"depot/depot"
)

// most is more than ever goes out.
const most = 1 << 40

// refusal0 is the frame of a refusal with the number 0.
const refusal0 = "\x00\x04\xff\x00\x00\x01"

// talk makes a depot with so many connections.
func talk(t *testing.T, shards, room, conns int) *depot.Depot {
	t.Helper()
	d := start(t, shards, room)
	for i := range conns {
		if n, e := d.Open(); n != i || e != api.OK {
			t.Fatalf("P6: Open = %d, %d, want %d", n, e, i)
		}
	}
	return d
}

// frame makes a frame of these bytes.
func frame(inside string) string {
	return string([]byte{byte(len(inside) >> 8), byte(len(inside))}) + inside
}

// asks makes the frame of a request, or of a reply.
func asks(kind, number int, body string) string {
	return frame(string([]byte{byte(kind), byte(number >> 8), byte(number)}) + body)
}

// list makes a count and the names of blobs.
func list(t *testing.T, blobs ...string) string {
	t.Helper()
	out := string([]byte{byte(len(blobs))})
	for _, b := range blobs {
		out += nameOf(t, b)
	}
	return out
}

// stock makes a count, and the names of blobs with these behind them.
func stock(t *testing.T, blobs ...string) string {
	t.Helper()
	out := string([]byte{byte(len(blobs))})
	for _, b := range blobs {
		out += nameOf(t, b) + b
	}
	return out
}

func feed(t *testing.T, d *depot.Depot, conn int, bytes string, want api.Errno) {
	t.Helper()
	if e := d.Feed(conn, bytes); e != want {
		t.Errorf("P6: Feed(%d) of %d bytes: %d, want %d", conn, len(bytes), e, want)
	}
}

// pick lets a connection take as many steps as want has digits, and holds them against it.
func pick(t *testing.T, d *depot.Depot, conn int, want string) {
	t.Helper()
	got := ""
	for range want {
		n, e := d.Pick(conn)
		if e != api.OK {
			t.Fatalf("P7: Pick(%d): %d", conn, e)
		}
		got += strconv.Itoa(n)
	}
	if got != want {
		t.Errorf("P7: the steps of connection %d are %s, want %s", conn, got, want)
	}
}

func take(t *testing.T, d *depot.Depot, conn int, want string) {
	t.Helper()
	if got, e := d.Take(conn, most); got != want || e != api.OK {
		t.Errorf("P6, P7: what goes out of connection %d is %x, %d, want %x", conn, got, e, want)
	}
}

// ask lets a connection ask from beginning to end, and holds the reply's body against want.
func ask(t *testing.T, d *depot.Depot, conn, kind int, body string, items int, want string) {
	t.Helper()
	feed(t, d, conn, asks(kind, 0x0107, body), api.OK)
	pick(t, d, conn, "1"+strings.Repeat("2", items)+"30")
	take(t, d, conn, asks(kind+128, 0x0107, want))
}

func look(t *testing.T, d *depot.Depot, now, leases, actions, conns int) {
	t.Helper()
	v := d.Look()
	if v.Now != now || v.Leases != leases || v.Actions != actions || v.Conns != conns {
		t.Errorf("P5: Look() = %+v, want the time %d, %d leases, %d actions, %d connections", v, now, leases, actions, conns)
	}
}

func tick(t *testing.T, d *depot.Depot, n int) {
	t.Helper()
	if e := d.Tick(n); e != api.OK {
		t.Errorf("P10: Tick(%d): %d", n, e)
	}
}
