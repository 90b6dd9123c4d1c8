package conn

import (
	"strings"
	"testing"

	"depot/api"
)

func feed(t *testing.T, c *Conn, bytes string, want bool) {
	t.Helper()
	if got := c.Feed(bytes); got != want {
		t.Errorf("Feed of %d bytes: %v, want %v", len(bytes), got, want)
	}
}

func cut(t *testing.T, c *Conn, want string, wantThere bool) {
	t.Helper()
	if got, there := c.Cut(); string(got) != want || there != wantThere {
		t.Errorf("Cut() = %.20q, %v, want %.20q, %v", got, there, want, wantThere)
	}
}

func TestHowMuchMayWait(t *testing.T) {
	c := &Conn{}
	feed(t, c, strings.Repeat("x", api.MaxIn+1), false)
	feed(t, c, "\x00\x03abc", true)
	feed(t, c, strings.Repeat("x", api.MaxIn-4), false)
	feed(t, c, strings.Repeat("x", api.MaxIn-5), true)
	feed(t, c, "", true)
	feed(t, c, "x", false)
	cut(t, c, "abc", true)
	feed(t, c, "123456", false)
	feed(t, c, "12345", true)
	feed(t, c, "1", false)
}

func TestFramesComeInPieces(t *testing.T) {
	c := &Conn{}
	for _, b := range []string{"", "\x00", "\x02", "a"} {
		cut(t, c, "", false)
		feed(t, c, b, true)
	}
	cut(t, c, "", false)
	feed(t, c, "b\x00\x01c\x00", true)
	cut(t, c, "ab", true)
	cut(t, c, "c", true)
	cut(t, c, "", false)
}

func TestLengths(t *testing.T) {
	for _, length := range []string{"\x00\x00", "\x07\xd1", "\x08\x00", "\xff\xff"} {
		c := &Conn{}
		feed(t, c, length, true)
		cut(t, c, "", true)
	}
	c := &Conn{}
	inside := strings.Repeat("x", api.MaxFrame)
	feed(t, c, "\x07\xd0"+inside[1:], true)
	cut(t, c, "", false)
	feed(t, c, "x", true)
	cut(t, c, inside, true)
}

// A frame that was cut stays as it is, whatever comes in behind it.
func TestCutIsLeftAlone(t *testing.T) {
	c := &Conn{}
	feed(t, c, "\x00\x03abc\x00\x03def", true)
	inside, _ := c.Cut()
	feed(t, c, "ghi", true)
	_ = append(inside, "----"...)
	cut(t, c, "def", true)
	if string(inside) != "abc" {
		t.Errorf("what was cut is now %q", inside)
	}
}

func TestTake(t *testing.T) {
	c := &Conn{}
	c.Send([]byte("abc"))
	c.Send([]byte("def"))
	for _, x := range []struct {
		most int
		want string
	}{{0, ""}, {2, "ab"}, {3, "cde"}, {1 << 62, "f"}, {1, ""}} {
		if got := c.Take(x.most); got != x.want {
			t.Errorf("Take(%d) = %q, want %q", x.most, got, x.want)
		}
	}
	c.Send([]byte("ghi"))
	if got := c.Take(9); got != "ghi" {
		t.Errorf("what goes out behind all that was taken: %q", got)
	}
}

func TestClose(t *testing.T) {
	c := &Conn{Work: &Work{}}
	feed(t, c, "\x00\x03abc", true)
	c.Send([]byte("reply"))
	if c.Closed() {
		t.Error("a new connection is closed")
	}
	c.Close()
	if !c.Closed() || c.Work != nil {
		t.Error("a closed connection is open, or has a request under way")
	}
	cut(t, c, "", false)
	if got := c.Take(9); got != "reply" {
		t.Errorf("what goes out of a closed connection: %q", got)
	}
}
