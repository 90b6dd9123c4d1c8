package depot_test

import (
	"slices"
	"strings"
	"testing"

	"depot/api"
)

// These tests are of P7: the steps that a connection takes.

func TestExamplesOfSteps(t *testing.T) {
	d := talk(t, 1, 10, 3)
	feed(t, d, 0, "\x00\x04\x04\x00\x07\x00", api.OK)
	pick(t, d, 0, "40")
	take(t, d, 0, "\x00\x04\xff\x00\x07\x01")
	feed(t, d, 1, "\x00\x00", api.OK)
	pick(t, d, 1, "4")
	take(t, d, 1, refusal0)
	feed(t, d, 2, "\x00\x0a\x05\x00\x01key1\x02hi", api.OK)
	pick(t, d, 2, "123")
	take(t, d, 2, "\x00\x03\x85\x00\x01")
	feed(t, d, 2, "\x00\x07\x04\x00\x02key1", api.OK)
	pick(t, d, 2, "1230")
	take(t, d, 2, "\x00\x07\x84\x00\x02\x01\x02hi")
}

// refused feeds a new connection: it must refuse, with this frame, and be closed.
func refused(t *testing.T, in, out string) {
	t.Helper()
	d := talk(t, 1, 10, 2)
	feed(t, d, 0, in+"behind", api.OK)
	pick(t, d, 0, "400")
	take(t, d, 0, out)
	feed(t, d, 0, "", api.ErrClosed)
	if e := d.Close(0); e != api.ErrClosed {
		t.Errorf("P7: Close of a connection that refused: %d", e)
	}
	feed(t, d, 1, "", api.OK)
	look(t, d, 0, 0, 0, 2)
}

// begun feeds a new connection, byte for byte: with the last one a request must
// begin, of so many items.
func begun(t *testing.T, in string, items int) {
	t.Helper()
	d := talk(t, 1, 10, 1)
	for i := range len(in) {
		pick(t, d, 0, "0")
		feed(t, d, 0, in[i:i+1], api.OK)
	}
	pick(t, d, 0, "1"+strings.Repeat("2", items)+"30")
	feed(t, d, 0, "", api.OK)
}

func TestLengths(t *testing.T) {
	for _, length := range []string{"\x00\x00", "\x07\xd1", "\x08\x00", "\x10\x01", "\x80\x00", "\xff\xff"} {
		refused(t, length, refusal0)
		refused(t, length+"\x04\x01\x07key1", refusal0)
		d := talk(t, 1, 10, 1)
		feed(t, d, 0, length, api.OK)
		pick(t, d, 0, "40")
		take(t, d, 0, refusal0)
	}
	for _, in := range []string{"", "\x00", "\x07", "\xff", "\x00\x01", "\x07\xd0", "\x00\x03\x09\x09", "\x07\xd0" + strings.Repeat("\x09", 1999)} {
		d := talk(t, 1, 10, 1)
		feed(t, d, 0, in, api.OK)
		pick(t, d, 0, "000")
		take(t, d, 0, "")
		feed(t, d, 0, "", api.OK)
	}
	refused(t, frame("\x04"), refusal0)
	refused(t, frame("\x04\x09"), refusal0)
	refused(t, frame("\x04\x09\x08"), "\x00\x04\xff\x09\x08\x01")
	refused(t, frame("\x04\xff\xfe"+strings.Repeat("k", 1997)), "\x00\x04\xff\xff\xfe\x01")
}

func TestTheGreatestFrame(t *testing.T) {
	blobs := slices.Concat(slices.Repeat([]string{strings.Repeat("l", 91)}, 12), slices.Repeat([]string{strings.Repeat("s", 90)}, 4))
	in := asks(api.Update, 1, stock(t, blobs...))
	if len(in) != 2+api.MaxFrame {
		t.Fatalf("this test's frame has %d bytes", len(in))
	}
	begun(t, in, 16)
	blobs[15] += "s"
	long := asks(api.Update, 1, stock(t, blobs...))
	refused(t, long, refusal0)
}

func TestCounts(t *testing.T) {
	for _, c := range []struct {
		kind  int
		ahead string
	}{{api.Find, "\x05"}, {api.Read, ""}, {api.Update, ""}} {
		for _, n := range []int{1, 2, 15, 16} {
			begun(t, asks(c.kind, 1, c.ahead+list(t, make([]string, n)...)), n)
		}
		for _, n := range []int{0, 17, 18} {
			refused(t, asks(c.kind, 1, c.ahead+list(t, make([]string, n)...)), "\x00\x04\xff\x00\x01\x01")
		}
	}
}

func TestTtls(t *testing.T) {
	for ttl := range 256 {
		in := asks(api.Find, 0x0203, string([]byte{byte(ttl)})+list(t, "aa"))
		if ttl >= 1 && ttl <= 100 {
			begun(t, in, 1)
		} else {
			refused(t, in, "\x00\x04\xff\x02\x03\x01")
		}
	}
}

func TestNamesThatTellTooMuch(t *testing.T) {
	long := strings.Repeat("x", 121)
	sum := nameOf(t, "a")[2:]
	for _, c := range []struct {
		kind          int
		ahead, behind string
	}{{api.Find, "\x05\x01", ""}, {api.Read, "\x01", ""}, {api.Update, "\x01", long}} {
		begun(t, asks(c.kind, 1, c.ahead+"\x00\x78"+sum+c.behind[:max(0, len(c.behind)-1)]), 1)
		for _, length := range []string{"\x00\x79", "\x00\xff", "\x01\x00", "\x01\x05", "\xff\xff"} {
			refused(t, asks(c.kind, 1, c.ahead+length+sum+c.behind), "\x00\x04\xff\x00\x01\x01")
			refused(t, asks(c.kind, 1, c.ahead+length+sum), "\x00\x04\xff\x00\x01\x01")
		}
	}
}

func TestValues(t *testing.T) {
	for length := range 256 {
		in := asks(api.Put, 1, "key1"+string([]byte{byte(length)})+strings.Repeat("v", length))
		if length <= 50 {
			begun(t, in, 1)
		} else {
			refused(t, in, "\x00\x04\xff\x00\x01\x01")
		}
	}
}

func TestKinds(t *testing.T) {
	for kind := range 256 {
		if kind >= 1 && kind <= 6 {
			continue
		}
		for _, body := range []string{"", "key1", "key1\x00", list(t, "a"), "\x05" + list(t, "a")} {
			refused(t, asks(kind, 0xfffe, body), "\x00\x04\xff\xff\xfe\x01")
		}
	}
}

// A byte too few or too many, and it is no request.
func TestBodies(t *testing.T) {
	for _, c := range []struct {
		kind, items int
		body        string
	}{
		{api.Find, 2, "\x05" + list(t, "a", "bb")},
		{api.Read, 2, list(t, "a", "bb")},
		{api.Update, 2, stock(t, "a", "bb")},
		{api.Update, 1, stock(t, "")},
		{api.Get, 1, "key1"},
		{api.Put, 1, "key1\x00"},
		{api.Put, 1, "key1\x02hi"},
		{api.Release, 1, "\x00\x00\x00\x01"},
	} {
		begun(t, asks(c.kind, 1, c.body), c.items)
		for n := range len(c.body) {
			refused(t, asks(c.kind, 1, c.body[:n]), "\x00\x04\xff\x00\x01\x01")
		}
		refused(t, asks(c.kind, 1, c.body+"\x00"), "\x00\x04\xff\x00\x01\x01")
	}
}

// The number of a request is any, and comes back with its reply.
func TestNumbersOfRequests(t *testing.T) {
	d := talk(t, 1, 10, 1)
	for _, n := range []int{0, 1, 255, 256, 0xfffe, 0xffff, 1} {
		feed(t, d, 0, asks(api.Get, n, "key1"), api.OK)
		pick(t, d, 0, "1230")
		take(t, d, 0, asks(132, n, "\x00"))
	}
}

func TestARequestBeginsWhenNoneIsUnderWay(t *testing.T) {
	d := talk(t, 1, 20, 1)
	bulk(t, d, []int{1}, "aa")
	feed(t, d, 0, asks(api.Find, 1, "\x05"+list(t, "aa", "bb"))+asks(api.Find, 2, "\x05"+list(t, "aa")), api.OK)
	pick(t, d, 0, "1")
	look(t, d, 0, 1, 0, 1)
	take(t, d, 0, "")
	pick(t, d, 0, "22")
	look(t, d, 0, 1, 0, 1)
	take(t, d, 0, "")
	pick(t, d, 0, "3")
	take(t, d, 0, asks(129, 1, "\x01\x00\x00\x00\x01\x02\x01\x00"))
	pick(t, d, 0, "1")
	look(t, d, 0, 2, 0, 1)
	pick(t, d, 0, "230")
	take(t, d, 0, asks(129, 2, "\x01\x00\x00\x00\x02\x01\x01"))
}

// What must be refused is so in its turn: the replies ahead of it go out.
func TestRefusalBehindRequests(t *testing.T) {
	d := talk(t, 1, 10, 1)
	feed(t, d, 0, asks(api.Put, 1, "key1\x01v")+asks(api.Get, 2, "key1")+"\x00\x00"+asks(api.Get, 3, "key1"), api.OK)
	pick(t, d, 0, "12312340")
	take(t, d, 0, asks(133, 1, "")+asks(132, 2, "\x01\x01v")+refusal0)
	take(t, d, 0, "")
}

func TestALeaseThatWasGivenOutlivesARefusal(t *testing.T) {
	d := talk(t, 1, 10, 1)
	bulk(t, d, []int{1}, "aa")
	ask(t, d, 0, api.Find, "\x05"+list(t, "aa"), 1, "\x01\x00\x00\x00\x01\x01\x01")
	feed(t, d, 0, "\x00\x00", api.OK)
	pick(t, d, 0, "4")
	check(t, d, 0, "aa!")
	look(t, d, 0, 1, 0, 1)
}
