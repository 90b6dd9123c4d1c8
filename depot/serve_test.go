package depot_test

import (
	"fmt"
	"math"
	"runtime"
	"strings"
	"testing"

	"depot/api"
	"depot/depot"
)

// These tests are of P11: Serve, by which connections take steps in turn.

// items is how many each connection's Update has in these tests.
const items = 4

// bit is the blob of an item: it tells by which connection it came.
func bit(conn, item int) string { return fmt.Sprintf("%d:%d", conn, item) }

// fill feeds a connection with an Update of its bits.
func fill(t *testing.T, d *depot.Depot, conn int) {
	t.Helper()
	var blobs []string
	for i := range items {
		blobs = append(blobs, bit(conn, i))
	}
	feed(t, d, conn, asks(api.Update, conn, stock(t, blobs...)), api.OK)
}

// updated is the frame of the reply to what fill feeds.
func updated(conn int) string {
	return asks(131, conn, "\x04"+strings.Repeat("\x01", items))
}

// busy makes a depot with an Update under way on each of its connections: then
// each has items to do and a reply to give, which are items+1 steps.
func busy(t *testing.T, conns int) *depot.Depot {
	t.Helper()
	d := talk(t, 1, 1000, conns)
	for c := range conns {
		fill(t, d, c)
		pick(t, d, c, "1")
	}
	return d
}

// turns tells by which connections items were done, in their order: the ring's,
// as nothing is thrown out here.
func turns(t *testing.T, d *depot.Depot) string {
	t.Helper()
	out := ""
	for _, s := range ring(t, d, 0) {
		for c := range api.MaxConns {
			for i := range items {
				if s.Name == nameOf(t, bit(c, i)) {
					out += fmt.Sprint(c)
				}
			}
		}
	}
	return out
}

func serve(t *testing.T, d *depot.Depot, steps, stop, want int) {
	t.Helper()
	if got := d.Serve(steps, stop); got != want {
		t.Errorf("P11: Serve(%d, %d) = %d, want %d", steps, stop, got, want)
	}
}

// served lets connections take steps, and holds all items that were done ever
// since, by whom they were, against want.
func served(t *testing.T, d *depot.Depot, steps int, want string) {
	t.Helper()
	serve(t, d, steps, -1, steps)
	if got := turns(t, d); got != want {
		t.Errorf("P11: behind a Serve of %d steps the items were those of the connections %q, want %q", steps, got, want)
	}
}

func TestExampleOfServe(t *testing.T) {
	d := talk(t, 1, 10, 1)
	feed(t, d, 0, "\x00\x0a\x05\x00\x01key1\x02hi", api.OK)
	pick(t, d, 0, "123")
	take(t, d, 0, "\x00\x03\x85\x00\x01")
	feed(t, d, 0, "\x00\x07\x04\x00\x02key1", api.OK)
	serve(t, d, 9, -1, 3)
	take(t, d, 0, "\x00\x07\x84\x00\x02\x01\x02hi")
	pick(t, d, 0, "0")
}

func TestServeWithoutConnections(t *testing.T) {
	for _, n := range []int{math.MinInt, -1, 0, 1, 2, math.MaxInt} {
		for _, stop := range []int{math.MinInt, -1, 0, 1, 2, math.MaxInt} {
			d := talk(t, 1, 10, 0)
			serve(t, d, n, stop, 0)
			look(t, d, 0, 0, 0, 0)
		}
	}
}

// held holds what so many steps in turn make of a busy depot against what it is.
func held(t *testing.T, d *depot.Depot, conns, taken int) {
	t.Helper()
	want := ""
	for i := range min(taken, conns*items) {
		want += fmt.Sprint(i % conns)
	}
	if got := turns(t, d); got != want {
		t.Errorf("P11: behind %d steps of %d connections the items were those of %q, want %q", taken, conns, got, want)
	}
	for c := range conns {
		out := ""
		if taken > conns*items+c {
			out = updated(c)
		}
		take(t, d, c, out)
	}
}

func TestStepsAndStops(t *testing.T) {
	for _, conns := range []int{1, 2, 3, 7, 8} {
		there := conns * (items + 1)
		numbers := []int{math.MinInt, math.MinInt32, -there, -2, -1, 0, 1, 2, conns - 1, conns, conns + 1,
			there - 1, there, there + 1, 256, 1 << 32, 1<<32 + 1, math.MaxInt - 1, math.MaxInt}
		for _, steps := range numbers {
			for _, stop := range append(numbers, steps-1, steps, steps+1) {
				want := max(0, min(steps, there))
				if stop >= 0 {
					want = min(want, stop)
				}
				d := busy(t, conns)
				serve(t, d, steps, stop, want)
				held(t, d, conns, want)
			}
		}
	}
}

// A stop counts the steps of its own call alone.
func TestStopsOfOtherServes(t *testing.T) {
	d := busy(t, 3)
	for _, stop := range []int{2, 1, 0, 3, 1} {
		serve(t, d, 100, stop, stop)
	}
	held(t, d, 3, 7)
	serve(t, d, 100, 100, 8)
	held(t, d, 3, 15)
	serve(t, d, 100, -1, 0)
}

// A step by Serve is whichever Pick would take.
func TestServeTakesEachKindOfStep(t *testing.T) {
	d := talk(t, 1, 20, 1)
	bulk(t, d, []int{1}, "aa")
	feed(t, d, 0, asks(api.Find, 1, "\x05"+list(t, "aa", "bb"))+asks(api.Read, 2, list(t, "aa"))+"\x00\x00", api.OK)
	serve(t, d, 1, -1, 1)
	look(t, d, 0, 1, 0, 1)
	check(t, d, 0, "aa")
	serve(t, d, 1, -1, 1)
	check(t, d, 0, "aa!")
	take(t, d, 0, "")
	tick(t, d, 3)
	serve(t, d, 2, -1, 2)
	take(t, d, 0, asks(129, 1, "\x01\x00\x00\x00\x01\x02\x01\x00"))
	serve(t, d, 2, -1, 2)
	check(t, d, 0, "aa*!")
	serve(t, d, 1, -1, 1)
	take(t, d, 0, asks(130, 2, "\x01\x01\x00\x02aa"))
	feed(t, d, 0, "", api.OK)
	serve(t, d, 1, -1, 1)
	take(t, d, 0, refusal0)
	feed(t, d, 0, "", api.ErrClosed)
	serve(t, d, 1, -1, 0)
	tick(t, d, 4)
	check(t, d, 0, "aa*!") // the deadline is that of the reply's time
	tick(t, d, 1)
	check(t, d, 0, "aa*")
}

// The beginnings are in turn, too: the numbers of leases tell.
func TestBeginningsInTurn(t *testing.T) {
	d := talk(t, 1, 10, 8)
	for _, c := range []int{5, 7, 0, 3, 1, 2, 6, 4} {
		feed(t, d, c, asks(api.Find, 1, "\x05"+list(t, "aa")), api.OK)
	}
	serve(t, d, 8, -1, 8)
	look(t, d, 0, 8, 0, 8)
	serve(t, d, 99, -1, 16)
	for c := range 8 {
		take(t, d, c, asks(129, 1, "\x01\x00\x00\x00"+string([]byte{byte(c + 1)})+"\x01\x00"))
	}
}

func TestAnotherServeGoesOn(t *testing.T) {
	d := busy(t, 3)
	served(t, d, 1, "0")
	served(t, d, 1, "01")
	served(t, d, 1, "012")
	served(t, d, 2, "01201")
	served(t, d, 3, "01201201")
	serve(t, d, 9, 2, 2)
	served(t, d, 1, "01201201201")
}

// A Serve that takes no step leaves the turn to whom it was.
func TestServesWithoutSteps(t *testing.T) {
	d := busy(t, 3)
	served(t, d, 1, "0")
	for _, steps := range []int{math.MinInt, -1, 0} {
		serve(t, d, steps, -1, 0)
	}
	serve(t, d, 9, 0, 0)
	served(t, d, 1, "01")

	d = talk(t, 1, 1000, 3)
	fill(t, d, 1)
	serve(t, d, 99, -1, items+2)
	serve(t, d, 99, -1, 0) // nobody has a step to take: 2 stays the next one
	for _, c := range []int{0, 2} {
		fill(t, d, c)
		pick(t, d, c, "1")
	}
	served(t, d, 1, "11112")
	served(t, d, 2, "1111202")
}

// Picks between Serves change nobody's turn.
func TestPicksBetweenServes(t *testing.T) {
	d := busy(t, 3)
	pick(t, d, 1, "2")
	served(t, d, 1, "10")
	pick(t, d, 2, "22")
	pick(t, d, 1, "2")
	served(t, d, 1, "1022"+"1"+"1")
	pick(t, d, 0, "2")
	served(t, d, 2, "1022110"+"20")
	pick(t, d, 0, "23")
	pick(t, d, 0, "0")
	served(t, d, 1, "1022110200"+"1")
}

// Those that would answer 0 are passed over: nothing has come in, or too little.
func TestIdleConnectionsBetween(t *testing.T) {
	for _, in := range []string{"", "\x00", "\x00\x07", "\x00\x07\x04\x00\x01key", "\x07\xd0" + strings.Repeat("\x09", 1999)} {
		d := talk(t, 1, 1000, 8)
		for c := range 8 {
			if c == 2 || c == 3 || c == 6 {
				fill(t, d, c)
				pick(t, d, c, "1")
			} else {
				feed(t, d, c, in, api.OK)
			}
		}
		served(t, d, 1, "2")
		served(t, d, 3, "2362")
		serve(t, d, 99, -1, 3*(items+1)-4)
		for c := range 8 {
			if c == 2 || c == 3 || c == 6 {
				take(t, d, c, updated(c))
			} else {
				take(t, d, c, "")
				feed(t, d, c, "", api.OK)
			}
		}
	}
}

// Who has come to its end is passed over, while others go on.
func TestConnectionsThatComeToAnEnd(t *testing.T) {
	d := busy(t, 3)
	pick(t, d, 1, "222")
	served(t, d, 4, "1110120") // the turns: 0, 1, 2, 0
	served(t, d, 2, "11101202")
	take(t, d, 1, updated(1))
	served(t, d, 4, "111012020202")
	take(t, d, 0, "")
	serve(t, d, 99, -1, 2)
	take(t, d, 0, updated(0))
	take(t, d, 2, updated(2))
}

func TestOneConnectionHasAllTurns(t *testing.T) {
	for _, c := range []int{0, 1, 7} {
		d := talk(t, 1, 1000, 8)
		for range 3 {
			fill(t, d, c)
		}
		serve(t, d, 7, -1, 7)
		serve(t, d, 99, -1, 3*(items+2)-7)
		take(t, d, c, strings.Repeat(updated(c), 3))
	}
}

// A refusal is a step, and takes a turn; behind it the connection is passed over.
func TestRefusedBetween(t *testing.T) {
	for _, c := range []struct{ in, out string }{
		{"\x00\x00", refusal0},
		{frame("\x07\x01\x02"), "\x00\x04\xff\x01\x02\x01"},
		{"\x00\x00" + asks(api.Get, 1, "key1"), refusal0},
	} {
		d := talk(t, 1, 1000, 3)
		for _, k := range []int{0, 2} {
			fill(t, d, k)
			pick(t, d, k, "1")
		}
		feed(t, d, 1, c.in, api.OK)
		served(t, d, 1, "0")
		take(t, d, 1, "")
		served(t, d, 1, "0")
		take(t, d, 1, c.out)
		served(t, d, 1, "02")
		served(t, d, 4, "020202")
		serve(t, d, 99, -1, 4)
		take(t, d, 1, "")
		feed(t, d, 1, "", api.ErrClosed)
		take(t, d, 0, updated(0))
		take(t, d, 2, updated(2))
	}
}

func TestClosedBetween(t *testing.T) {
	d := busy(t, 4)
	served(t, d, 1, "0")
	d.Close(1) // the next one: the turn is that of the one behind it
	served(t, d, 3, "0230")
	d.Close(0) // it took a step last: the turn is not its own again, nor another's
	served(t, d, 1, "02302")
	d.Close(3)
	d.Close(2)
	serve(t, d, 99, -1, 0)
	for c := range 4 {
		take(t, d, c, "")
	}
}

// Behind the last one comes one that was opened meanwhile, else the first.
func TestOpenedBetween(t *testing.T) {
	d := busy(t, 2)
	served(t, d, 2, "01")
	open := func(want int) {
		t.Helper()
		if c, e := d.Open(); c != want || e != api.OK {
			t.Fatalf("P6: Open = %d, %d, want %d", c, e, want)
		}
		fill(t, d, want)
		pick(t, d, want, "1")
	}
	open(2)
	served(t, d, 1, "012")
	served(t, d, 1, "0120")
	open(3)
	served(t, d, 4, "01201230")
}

// What came in between Serves has its turn as well.
func TestFedBetween(t *testing.T) {
	d := busy(t, 1)
	for range 3 {
		d.Open()
	}
	served(t, d, 2, "00")
	fill(t, d, 3)
	fill(t, d, 1)
	served(t, d, 4, "0001") // 1 and 3 begin, 0, 1
	served(t, d, 3, "0001301")
}

func TestTurnsOfDepotsAreApart(t *testing.T) {
	a, b := busy(t, 3), busy(t, 3)
	served(t, a, 2, "01")
	served(t, b, 1, "0")
	served(t, a, 2, "0120")
	served(t, b, 1, "01")
}

// What Serve answers and does is the same each time, however the program runs.
func TestServesAreAlike(t *testing.T) {
	run := func(processors int) string {
		defer runtime.GOMAXPROCS(runtime.GOMAXPROCS(processors))
		d := busy(t, 8)
		answers := ""
		for i := range 12 {
			answers += fmt.Sprint(d.Serve(i, 9-i), " ")
		}
		return answers + turns(t, d)
	}
	want := run(1)
	for range 50 {
		if got := run(8); got != want {
			t.Fatalf("P2: the same Serves: %s, and %s", want, got)
		}
	}
}

// Serve is as so many Picks in turn, by what can be seen of the depot.
func TestServeIsAsPicks(t *testing.T) {
	for steps := range 60 {
		a, b := talk(t, 2, 20, 5), talk(t, 2, 20, 5)
		for _, d := range []*depot.Depot{a, b} {
			bulk(t, d, []int{1, 1}, "aaaa", "bb")
			feed(t, d, 0, asks(api.Find, 1, "\x05"+list(t, "aaaa", "bb", "x"))+asks(api.Get, 2, "key1"), api.OK)
			feed(t, d, 1, asks(api.Put, 1, "key1\x02hi")+asks(api.Release, 2, "\x00\x00\x00\x01")+"\x00\x00", api.OK)
			feed(t, d, 2, asks(api.Update, 1, stock(t, "cccccc", "dddddd", "eeeeee", "ffffff")), api.OK)
			feed(t, d, 4, asks(api.Read, 1, list(t, "aaaa", "dddddd", "ffffff"))+"\x00", api.OK)
		}
		taken, last := 0, 4
		for idle := 0; taken < steps && idle < 5; {
			last = (last + 1) % 5
			if n, _ := b.Pick(last); n == api.None {
				idle++
			} else {
				taken, idle = taken+1, 0
			}
		}
		serve(t, a, steps, -1, taken)
		if !same(all(t, a), all(t, b)) || fmt.Sprint(a.Look()) != fmt.Sprint(b.Look()) {
			t.Errorf("P11: behind %d steps: %v, %v; by Pick: %v, %v", steps, a.Look(), all(t, a), b.Look(), all(t, b))
		}
		for c := range 5 {
			out, _ := b.Take(c, most)
			take(t, a, c, out)
		}
	}
}
