package numbers

import "testing"

func TestNumbers(t *testing.T) {
	for _, c := range []struct {
		n, size int
		want    string
	}{
		{0, 1, "\x00"}, {255, 1, "\xff"}, {3, 2, "\x00\x03"}, {2000, 2, "\x07\xd0"}, {65535, 2, "\xff\xff"},
		{1, 4, "\x00\x00\x00\x01"}, {0x01020304, 4, "\x01\x02\x03\x04"}, {0xfffefdfc, 4, "\xff\xfe\xfd\xfc"},
	} {
		if got := string(Append([]byte("ahead"), c.n, c.size)); got != "ahead"+c.want {
			t.Errorf("Append of %d in %d bytes: %q, want %q behind ahead", c.n, c.size, got, c.want)
		}
		if got := Of(c.want); got != c.n {
			t.Errorf("Of(%q) = %d, want %d", c.want, got, c.n)
		}
	}
	if got := Of(""); got != 0 {
		t.Errorf("Of no bytes: %d", got)
	}
}
