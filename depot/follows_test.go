package depot_test

import (
	"crypto/sha256"
	"fmt"
	"strings"
	"testing"

	"depot/api"
	"depot/depot"
)

// These tests are of P12, one for each of its sentences at least; many_test.go
// looks whether they hold where many speak at once.

// read asks for the bytes of a name; false, if its blob is not held.
func read(t *testing.T, d *depot.Depot, conn int, name string) (string, bool) {
	t.Helper()
	feed(t, d, conn, asks(api.Read, 9, "\x01"+name), api.OK)
	serve(t, d, 1<<40, -1, 3)
	out, _ := d.Take(conn, most)
	switch {
	case out == asks(130, 9, "\x01\x00"):
		return "", false
	case len(out) < 9 || out != asks(130, 9, "\x01\x01"+string([]byte{0, byte(len(out) - 9)})+out[9:]):
		t.Fatalf("P7: a Read of one name was told %x", out)
	}
	return out[9:], true
}

// has tells if bytes have this name, by the library's sum.
func has(bytes, name string) bool {
	sum := sha256.Sum256([]byte(bytes))
	return name == string([]byte{0, byte(len(bytes))})+string(sum[:])
}

// Whatever was stored under which name: the bytes that are told have the name.
func TestReadTellsBytesOfTheName(t *testing.T) {
	d := talk(t, 3, 300, 2)
	texts := []string{"", "a", "b", "abc", "abd", "\x00", "\x00\x00", "\xff", strings.Repeat("l", 119), strings.Repeat("l", 120), strings.Repeat("m", 120)}
	for _, named := range texts {
		for _, given := range texts {
			if len(given) != len(named) {
				continue // those bytes would be no request
			}
			answer := "\x02"
			if given == named {
				answer = "\x01"
			}
			ask(t, d, 0, api.Update, "\x01"+nameOf(t, named)+given, 1, "\x01"+answer)
			for _, asked := range texts {
				bytes, held := read(t, d, 1, nameOf(t, asked))
				if held && !has(bytes, nameOf(t, asked)) {
					t.Errorf("P12: behind an Update of %.9q as %.9q the Read of %.9q tells %.9q", given, named, asked, bytes)
				}
				if asked == named && given == named && !held {
					t.Errorf("P12: %.9q was stored and is not held", named)
				}
			}
		}
	}
}

// A name that is no blob's: its length or its sum is another one's, be it by a bit.
func TestReadOfANameThatIsNone(t *testing.T) {
	d := talk(t, 1, 300, 1)
	bulk(t, d, []int{1, 1, 1}, "", "abc", "abcd")
	name := nameOf(t, "abc")
	none := []string{"\x00\x04" + name[2:], "\x00\x00" + name[2:], "\x00\x78" + name[2:], "\x00\x03" + strings.Repeat("\x00", 32)}
	for i := 2; i < len(name); i++ {
		none = append(none, name[:i]+string([]byte{name[i] ^ 1})+name[i+1:])
	}
	for _, name := range none {
		if bytes, held := read(t, d, 0, name); held {
			t.Errorf("P12: the Read of the name %x tells %q", name, bytes)
		}
		bytes := ("abcd" + strings.Repeat("-", 120))[:name[1]]
		ask(t, d, 0, api.Update, "\x01"+name+bytes, 1, "\x01\x02")
		if bytes, held := read(t, d, 0, name); held {
			t.Errorf("P12: behind an Update the Read of the name %x tells %q", name, bytes)
		}
	}
}

// press stores so much, by Bulk and by Update, that nothing stays that may go.
func press(t *testing.T, d *depot.Depot, conn, round int) {
	t.Helper()
	for i := range 40 {
		d.Bulk([]string{fmt.Sprint("bulk", round, i)})
		feed(t, d, conn, asks(api.Update, 1, stock(t, fmt.Sprint("up", round, i))), api.OK)
		d.Serve(1<<40, -1)
	}
	d.Take(conn, most)
}

// stays holds a blob to be held, by Find, by Read and by the ring.
func stays(t *testing.T, d *depot.Depot, conn int, blob string, pins int) {
	t.Helper()
	feed(t, d, conn, asks(api.Find, 1, "\x01"+list(t, blob)), api.OK)
	serve(t, d, 1<<40, -1, 3)
	if out, _ := d.Take(conn, most); !strings.HasSuffix(out, "\x01\x01") {
		t.Errorf("P12: a Find of %q, which a lease holds, tells %x", blob, out)
	}
	if bytes, held := read(t, d, conn, nameOf(t, blob)); !held || bytes != blob {
		t.Errorf("P12: a Read of %q, which a lease holds, tells %q, %v", blob, bytes, held)
	}
	tick(t, d, 1) // that Find's lease ends
	for _, s := range ring(t, d, int(nameOf(t, blob)[2])%len(d.Look().Bytes)) {
		if s.Name == nameOf(t, blob) && s.Pins != pins {
			t.Errorf("P12: %q has %d pins, want %d", blob, s.Pins, pins)
		}
	}
}

func TestWhatALeaseHoldsIsHeld(t *testing.T) {
	for _, shards := range []int{1, 3} {
		d := talk(t, shards, 20, 3)
		bulk(t, d, []int{1, 1, 1}, "aaaa", "bb", "")
		ask(t, d, 0, api.Find, "\x09"+list(t, "aaaa", "", "aaaa"), 3, "\x01\x00\x00\x00\x01\x03\x01\x01\x01")
		ask(t, d, 1, api.Find, "\x08"+list(t, "aaaa", "bb"), 2, "\x01\x00\x00\x00\x02\x02\x01\x01")
		d.Close(1) // the lease was given: it outlives the connection
		press(t, d, 2, 0)
		stays(t, d, 2, "aaaa", 3)
		stays(t, d, 2, "bb", 1)
		stays(t, d, 2, "", 1)
		tick(t, d, 4) // 7, a step ahead of the second's deadline
		press(t, d, 2, 1)
		for _, b := range []string{"aaaa", "bb", ""} {
			if bytes, held := read(t, d, 2, nameOf(t, b)); !held || bytes != b {
				t.Errorf("P12: with the deadline just ahead the Read of %q tells %q, %v", b, bytes, held)
			}
		}
		tick(t, d, 1) // 8: the second lease has ended, the first holds its own all the same
		press(t, d, 2, 2)
		if _, held := read(t, d, 2, nameOf(t, "bb")); held {
			t.Errorf("P10: what no lease holds any more did not go")
		}
		for _, b := range []string{"aaaa", ""} {
			if bytes, held := read(t, d, 2, nameOf(t, b)); !held || bytes != b {
				t.Errorf("P12: behind another lease's end the Read of %q tells %q, %v", b, bytes, held)
			}
		}
		ask(t, d, 2, api.Release, "\x00\x00\x00\x01", 1, "\x01")
		press(t, d, 2, 3)
		if _, held := read(t, d, 2, nameOf(t, "aaaa")); held {
			t.Errorf("P9: what a lease held that was released did not go")
		}
	}
}

// A blob's pins are as many as it stands in lists, of leases that were begun, too.
func TestPinsAreThePlacesInLists(t *testing.T) {
	d := talk(t, 1, 20, 3)
	bulk(t, d, []int{1, 1}, "aaaa", "bb")
	ask(t, d, 0, api.Find, "\x64"+list(t, "aaaa", "aaaa"), 2, "\x01\x00\x00\x00\x01\x02\x01\x01")
	check(t, d, 0, "aaaa!!", "bb")
	ask(t, d, 0, api.Find, "\x05"+list(t, "bb", "aaaa", "cc"), 3, "\x01\x00\x00\x00\x02\x03\x01\x01\x00")
	check(t, d, 0, "aaaa!!!", "bb!")
	bulk(t, d, []int{1}, "cc") // it stands in no list: it was not held
	check(t, d, 0, "aaaa!!!", "bb!", "cc")
	feed(t, d, 1, asks(api.Find, 1, "\x05"+list(t, "cc", "cc", "bb")), api.OK)
	serve(t, d, 3, -1, 3)
	check(t, d, 0, "aaaa!!!", "bb!", "cc!!")
	ask(t, d, 0, api.Read, list(t, "bb"), 1, "\x01\x01\x00\x02bb")
	ask(t, d, 0, api.Release, "\x00\x00\x00\x03", 1, "\x00") // not given yet
	check(t, d, 0, "aaaa!!!", "bb*!", "cc!!")
	ask(t, d, 0, api.Release, "\x00\x00\x00\x01", 1, "\x01")
	check(t, d, 0, "aaaa!", "bb*!", "cc!!")
	tick(t, d, 5)
	check(t, d, 0, "aaaa", "bb*", "cc!!")
	d.Close(1)
	check(t, d, 0, "aaaa", "bb*", "cc")
}

// Lengths that just fit, and one byte more, beside blobs with pins and without.
func TestBytesAreTheLengthsTogether(t *testing.T) {
	for room := 1; room <= 40; room++ {
		d := talk(t, 1, room, 1)
		for i := range 60 {
			blob := strings.Repeat(string(rune('a'+i%26)), (i*7)%(room+2))
			if i%9 == 0 {
				feed(t, d, 0, asks(api.Find, 1, "\x05"+list(t, blob)), api.OK)
			}
			feed(t, d, 0, asks(api.Update, 1, stock(t, blob)), api.OK)
			d.Serve(1<<40, -1)
			tick(t, d, i%3)
			together := 0
			for _, s := range ring(t, d, 0) {
				together += int(s.Name[1])
			}
			if got := d.Look().Bytes[0]; got != together || got > room {
				t.Fatalf("P12: a shard of room %d has %d bytes, its blobs %d", room, got, together)
			}
		}
	}
}

// Each request has one reply, in the order in which they came in on a connection,
// however its steps and those of others are mixed.
func TestRepliesInOrder(t *testing.T) {
	for _, mix := range []func(d *depot.Depot){
		func(d *depot.Depot) { d.Serve(1<<40, -1) },
		func(d *depot.Depot) { // one connection behind the other
			for c := range 3 {
				for n := 1; n != api.None; n, _ = d.Pick(c) {
				}
			}
		},
		func(d *depot.Depot) { // one goes ahead, the others follow
			for d.Serve(1, -1) > 0 {
				d.Pick(2)
				d.Pick(2)
			}
		},
	} {
		d := talk(t, 1, 100, 3)
		var want [3]string
		for i := range 12 {
			for c := range 3 {
				n := i*3 + c
				feed(t, d, c, asks(api.Read, n, list(t, make([]string, 1+n%5)...))+asks(api.Put, n, "key1\x00")+asks(api.Get, n, "none"), api.OK)
				want[c] += asks(130, n, string([]byte{byte(1 + n%5)})+strings.Repeat("\x00", 1+n%5)) + asks(133, n, "") + asks(132, n, "\x00")
			}
		}
		mix(d)
		for c := range 3 {
			take(t, d, c, want[c])
			pick(t, d, c, "0")
		}
	}
}
