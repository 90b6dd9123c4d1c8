package request

import (
	"reflect"
	"strings"
	"testing"
)

// name makes the name of a blob of this length.
func name(length int) string {
	return string([]byte{byte(length >> 8), byte(length)}) + strings.Repeat("s", 32)
}

func rows(count int) string {
	return string([]byte{byte(count)}) + strings.Repeat(name(1), count)
}

func nameList(count int) list {
	var l list
	for range count {
		l.Names = append(l.Names, name(1))
	}
	return l
}

func TestRequests(t *testing.T) {
	h := func(kind int) head { return head{kind: kind, number: 0x0107} }
	value := strings.Repeat("v", 50)
	for _, c := range []struct {
		inside string
		want   Request
		items  int
	}{
		{"\x01\x01\x07\x01" + rows(1), Find{h(1), nameList(1), 1}, 1},
		{"\x01\x01\x07\x64" + rows(16), Find{h(1), nameList(16), 100}, 16},
		{"\x02\x01\x07" + rows(1), Read{h(2), nameList(1)}, 1},
		{"\x02\x01\x07" + rows(16), Read{h(2), nameList(16)}, 16},
		{"\x02\x01\x07\x01" + name(120), Read{h(2), list{[]string{name(120)}}}, 1},
		{"\x03\x01\x07\x02" + name(2) + "ab" + name(0), Update{h(3), []Blob{{name(2), "ab"}, {name(0), ""}}}, 2},
		{"\x03\x01\x07\x01" + name(120) + strings.Repeat("b", 120), Update{h(3), []Blob{{name(120), strings.Repeat("b", 120)}}}, 1},
		{"\x04\x01\x07key1", Get{head: h(4), Key: "key1"}, 1},
		{"\x04\x01\x07\x00\xff\x00\xff", Get{head: h(4), Key: "\x00\xff\x00\xff"}, 1},
		{"\x05\x01\x07key1\x00", Put{head: h(5), Key: "key1"}, 1},
		{"\x05\x01\x07key1\x02hi", Put{head: h(5), Key: "key1", Value: "hi"}, 1},
		{"\x05\x01\x07key1\x32" + value, Put{head: h(5), Key: "key1", Value: value}, 1},
		{"\x06\x01\x07\x01\x02\x03\x04", Release{head: h(6), Lease: 0x01020304}, 1},
	} {
		got, ok := Parse([]byte(c.inside))
		if !ok || !reflect.DeepEqual(got, c.want) {
			t.Errorf("Parse(%.20q) = %#v, %v, want %#v", c.inside, got, ok, c.want)
			continue
		}
		if got.Items() != c.items {
			t.Errorf("%.20q has %d items, want %d", c.inside, got.Items(), c.items)
		}
		if r, want := string(got.Reply([]byte("body"))), "\x00\x07"+string([]byte{c.inside[0] + 128})+"\x01\x07body"; r != want {
			t.Errorf("the reply to %.20q is %q, want %q", c.inside, r, want)
		}
		checkLength(t, c.inside)
	}
}

// checkLength takes bytes away from a request, and puts one behind it: each time
// it is none any more.
func checkLength(t *testing.T, inside string) {
	t.Helper()
	checkNone(t, inside+"\x00")
	for n := range len(inside) {
		checkNone(t, inside[:n])
	}
}

func checkNone(t *testing.T, inside string) {
	t.Helper()
	if got, ok := Parse([]byte(inside)); got != nil || ok {
		t.Errorf("Parse(%.40q, of %d bytes) = %#v, %v", inside, len(inside), got, ok)
	}
}

func TestNoRequests(t *testing.T) {
	for _, ahead := range []string{"\x01\x00\x07\x05", "\x02\x00\x07", "\x03\x00\x07"} {
		checkNone(t, ahead+rows(0))
		checkNone(t, ahead+"\x01"+name(121)+strings.Repeat("b", 121))
		checkNone(t, ahead+"\x01"+name(121))
		checkNone(t, ahead+"\x01"+name(256))
		checkNone(t, ahead+"\x01"+name(256)+strings.Repeat("b", 256))
		checkNone(t, ahead+"\x01"+name(65535))
		checkNone(t, ahead+"\x02"+name(0)+name(121))
	}
	for _, ahead := range []string{"\x01\x00\x07\x05", "\x02\x00\x07"} {
		checkNone(t, ahead+rows(17))
		checkNone(t, ahead+rows(255))
	}
	checkNone(t, "\x03\x00\x07\x11"+strings.Repeat(name(0), 17))
	for _, ttl := range []string{"\x00", "\x65", "\xff"} {
		checkNone(t, "\x01\x00\x07"+ttl+rows(1))
	}
	for _, length := range []int{51, 52, 255} {
		checkNone(t, "\x05\x00\x07key1"+string([]byte{byte(length)})+strings.Repeat("v", length))
	}
	for kind := range 256 {
		if kind < 1 || kind > 6 {
			for _, body := range []string{"", "key1", "\x05" + rows(1), rows(1), "key1\x00"} {
				checkNone(t, string([]byte{byte(kind), 0, 7})+body)
			}
		}
	}
}

func TestPiecesAreTheirOwn(t *testing.T) {
	inside := []byte("\x05\x00\x07key1\x02hi")
	got, _ := Parse(inside)
	clear(inside)
	if p, ok := got.(Put); !ok || p.Key != "key1" || p.Value != "hi" {
		t.Errorf("a request changes with its frame: %#v", got)
	}
}

func TestRefusal(t *testing.T) {
	for inside, want := range map[string]string{
		"":                  "\x00\x04\xff\x00\x00\x01",
		"\x04":              "\x00\x04\xff\x00\x00\x01",
		"\x04\x09":          "\x00\x04\xff\x00\x00\x01",
		"\x04\x09\x08":      "\x00\x04\xff\x09\x08\x01",
		"\x04\x00\x07\x00":  "\x00\x04\xff\x00\x07\x01",
		"\xff\xff\xffother": "\x00\x04\xff\xff\xff\x01",
	} {
		if got := string(Refusal([]byte(inside))); got != want {
			t.Errorf("Refusal(%q) = %q, want %q", inside, got, want)
		}
	}
}
