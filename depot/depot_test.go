package depot_test

import (
	"encoding/hex"
	"math"
	"slices"
	"strings"
	"testing"

	"depot/api"
	"depot/depot"
)

func start(t *testing.T, shards, room int) *depot.Depot {
	t.Helper()
	d, e := depot.New(api.Config{Shards: shards, Room: room})
	if d == nil || e != api.OK {
		t.Fatalf("P3: New(%d, %d): %d", shards, room, e)
	}
	return d
}

func nameOf(t *testing.T, blob string) string {
	t.Helper()
	n, e := depot.Name(blob)
	if e != api.OK {
		t.Fatalf("P3: Name of %d bytes: %d", len(blob), e)
	}
	return n
}

func bulk(t *testing.T, d *depot.Depot, want []int, blobs ...string) {
	t.Helper()
	got, e := d.Bulk(blobs)
	if !slices.Equal(got, want) || e != api.OK {
		t.Errorf("P4: Bulk(%q) = %v, %d, want %v", blobs, got, e, want)
	}
}

func ring(t *testing.T, d *depot.Depot, shard int) []api.Slot {
	t.Helper()
	l, e := d.Ring(shard)
	if e != api.OK {
		t.Fatalf("P5: Ring(%d): %d", shard, e)
	}
	return l
}

// check holds a ring against words, those of marked blobs with a * behind them,
// and behind this a ! for each pin.
func check(t *testing.T, d *depot.Depot, shard int, words ...string) {
	t.Helper()
	var want []api.Slot
	bytes := 0
	for _, w := range words {
		rest := strings.TrimRight(w, "!")
		blob, marked := strings.CutSuffix(rest, "*")
		want = append(want, api.Slot{Name: nameOf(t, blob), Marked: marked, Pins: len(w) - len(rest)})
		bytes += len(blob)
	}
	if got := ring(t, d, shard); !slices.Equal(got, want) {
		t.Errorf("P5: Ring(%d) is %#v, want %q: %#v", shard, got, words, want)
	}
	if got := d.Look().Bytes[shard]; got != bytes {
		t.Errorf("P5: shard %d has %d bytes, want %d", shard, got, bytes)
	}
}

// all tells everything that can be seen of a depot's blobs.
func all(t *testing.T, d *depot.Depot) [][]api.Slot {
	t.Helper()
	var out [][]api.Slot
	for k := range d.Look().Bytes {
		out = append(out, ring(t, d, k))
	}
	return out
}

func same(a, b [][]api.Slot) bool {
	return slices.EqualFunc(a, b, slices.Equal[[]api.Slot])
}

func TestName(t *testing.T) {
	for blob, want := range map[string]string{
		"":                       "0000e3b0c44298fc1c149afbf4c8996fb92427ae41e4649b934ca495991b7852b855",
		"abc":                    "0003ba7816bf8f01cfea414140de5dae2223b00361a396177a9cb410ff61f20015ad",
		strings.Repeat("a", 120): "00782f3d335432c70b580af0e8e1b3674a7c020d683aa5f73aaaedfdc55af904c21c",
	} {
		got, e := depot.Name(blob)
		if hex.EncodeToString([]byte(got)) != want || e != api.OK {
			t.Errorf("P3: Name(%q) = %x, %d, want %s", blob, got, e, want)
		}
	}
	for _, n := range []int{121, 122, 256, 65536 + 3, 1 << 24} {
		if got, e := depot.Name(strings.Repeat("a", n)); got != "" || e != api.ErrLong {
			t.Errorf("P3: Name of %d bytes = %x, %d", n, got, e)
		}
	}
}

func TestNew(t *testing.T) {
	numbers := []int{math.MinInt, math.MinInt32, -4000, -1, 0, 1, 2, 7, 8, 9, 10, 256 + 1, 3999, 4000, 4001, 1<<32 + 1, math.MaxInt}
	for _, shards := range numbers {
		for _, room := range numbers {
			d, e := depot.New(api.Config{Shards: shards, Room: room})
			if shards < 1 || shards > 8 || room < 1 || room > 4000 {
				if d != nil || e != api.ErrConfig {
					t.Errorf("P3: New(%d, %d): %v, %d", shards, room, d, e)
				}
				continue
			}
			if d == nil || e != api.OK {
				t.Fatalf("P3: New(%d, %d): %v, %d", shards, room, d, e)
			}
			v := d.Look()
			if v.Now != 0 || v.Leases != 0 || v.Actions != 0 || v.Conns != 0 || !slices.Equal(v.Bytes, make([]int, shards)) {
				t.Errorf("P3: a new depot of %d shards: %+v", shards, v)
			}
			for k := range shards {
				check(t, d, k)
			}
		}
	}
}

func TestExamples(t *testing.T) {
	d := start(t, 1, 10)
	bulk(t, d, []int{1, 1}, "aaaa", "bbbb")
	check(t, d, 0, "aaaa", "bbbb")
	bulk(t, d, []int{1, 1}, "aaaa", "cccc")
	check(t, d, 0, "aaaa", "cccc")
	bulk(t, d, []int{3}, "eleven byte")
	check(t, d, 0, "aaaa", "cccc")
}

func TestBulkRoom(t *testing.T) {
	for _, room := range []int{1, 2, 63, 119, 120} {
		d := start(t, 1, room)
		full := strings.Repeat("f", room)
		bulk(t, d, []int{1}, full)
		check(t, d, 0, full)
		other := strings.Repeat("o", room)
		bulk(t, d, []int{1, 1, 1}, "", other, other)
		check(t, d, 0, "", other+"*")
		if room < api.MaxBlob {
			bulk(t, d, []int{3}, strings.Repeat("l", room+1))
			check(t, d, 0, "", other+"*")
		}
	}
}

func TestBulkGreatestRoom(t *testing.T) {
	d := start(t, 1, api.MaxRoom)
	var blobs []string
	for i := range 34 {
		blobs = append(blobs, strings.Repeat(string(rune('A'+i)), api.MaxBlob))
	}
	bulk(t, d, slices.Repeat([]int{1}, 33), blobs[:33]...)
	bulk(t, d, []int{1}, strings.Repeat("z", 40))
	if got := d.Look().Bytes; !slices.Equal(got, []int{api.MaxRoom}) {
		t.Errorf("P5: a full shard has %v bytes", got)
	}
	bulk(t, d, []int{1}, blobs[33])
	check(t, d, 0, slices.Concat(blobs[1:33], []string{strings.Repeat("z", 40), blobs[33]})...)
}

func TestBulkAllMarked(t *testing.T) {
	d := start(t, 1, 9)
	bulk(t, d, []int{1, 1, 1, 1, 1, 1}, "aaa", "bbb", "ccc", "ccc", "aaa", "bbb")
	check(t, d, 0, "aaa*", "bbb*", "ccc*")
	bulk(t, d, []int{1}, "d")
	check(t, d, 0, "bbb", "ccc", "d")
	bulk(t, d, []int{1, 1}, "ccc", "eeee")
	check(t, d, 0, "ccc*", "d", "eeee")
	bulk(t, d, []int{1}, "nine byte")
	check(t, d, 0, "nine byte")
}

func TestBulkThrowsOutTheEmptyBlob(t *testing.T) {
	d := start(t, 1, 2)
	bulk(t, d, []int{1, 1}, "", "aa")
	check(t, d, 0, "", "aa")
	bulk(t, d, []int{1}, "bb")
	check(t, d, 0, "bb")
}

func TestBulkCounts(t *testing.T) {
	d := start(t, 8, 4000)
	bulk(t, d, nil)
	bulk(t, d, slices.Repeat([]int{1}, 64), make([]string, 64)...)
	check(t, d, 227%8, "*")
	for _, n := range []int{65, 66, 128, 1 << 20} {
		if got, e := d.Bulk(make([]string, n)); len(got) != 0 || e != api.ErrMany {
			t.Errorf("P4: Bulk of %d: %v, %d", n, got, e)
		}
	}
}

func TestRefusedBulkChangesNothing(t *testing.T) {
	d := start(t, 2, 50)
	bulk(t, d, []int{1, 1, 1}, "a", "bb", "ccc")
	before := all(t, d)
	long := strings.Repeat("x", 121)
	for k, c := range []struct {
		blobs []string
		want  api.Errno
	}{
		{[]string{long}, api.ErrLong},
		{[]string{"a", "d", long}, api.ErrLong},
		{[]string{long, "a", "d"}, api.ErrLong},
		{append(slices.Repeat([]string{"a"}, 63), long), api.ErrLong},
		{slices.Repeat([]string{"a"}, 65), api.ErrMany},
		{slices.Repeat([]string{long}, 65), api.ErrMany},
	} {
		if got, e := d.Bulk(c.blobs); len(got) != 0 || e != c.want {
			t.Errorf("P1, P4: line %d: %v, %d, want %d", k, got, e, c.want)
		}
		if !same(all(t, d), before) {
			t.Errorf("P1: line %d changed the depot", k)
		}
	}
}

func TestRingNumbers(t *testing.T) {
	for shards := 1; shards <= api.MaxShards; shards++ {
		d := start(t, shards, 100)
		bulk(t, d, []int{1, 1}, "", "abc")
		for k := range shards {
			ring(t, d, k)
		}
		for _, k := range []int{math.MinInt, -256, -1, shards, shards + 1, 227, 256, 1 << 32, math.MaxInt} {
			if got, e := d.Ring(k); len(got) != 0 || e != api.ErrArg {
				t.Errorf("P5: Ring(%d) of %d shards: %v, %d", k, shards, got, e)
			}
		}
	}
}

func TestShardOfABlob(t *testing.T) {
	for shards := 1; shards <= api.MaxShards; shards++ {
		d := start(t, shards, 100)
		bulk(t, d, []int{1, 1}, "abc", "")
		want := make([][]api.Slot, shards)
		want[186%shards] = append(want[186%shards], api.Slot{Name: nameOf(t, "abc")})
		want[227%shards] = append(want[227%shards], api.Slot{Name: nameOf(t, "")})
		if got := all(t, d); !same(got, want) {
			t.Errorf("P4: of %d shards: %#v, want %#v", shards, got, want)
		}
	}
}

func TestEveryCallEnds(t *testing.T) {
	texts := []string{"", "\x00", "\x00\x00", "\xff\xff\xff", "\x00\x04\x04\x00\x07\x00", strings.Repeat("\x01", 7000)}
	for _, n := range []int{math.MinInt, -1, 0, 1, 7, 8, 1 << 32, math.MaxInt} {
		d := start(t, 2, 10)
		d.Open()
		for _, text := range texts {
			depot.Name(text)
			depot.New(api.Config{Shards: n, Room: n})
			d.Feed(n, text)
			d.Feed(0, text)
			d.Pick(n)
			d.Serve(n, n)
			d.Take(n, n)
			d.Tick(n)
			d.Bulk([]string{text, text})
			d.Ring(n)
			d.Close(n)
			d.Look()
		}
	}
}
