package depot_test

import (
	"math/rand"
	"runtime"
	"slices"
	"strings"
	"testing"

	"depot/api"
	"depot/depot"
)

// These tests are of P2: what answers hang on, and what memory they share.

func TestBulkLeavesItsListAlone(t *testing.T) {
	d := start(t, 3, 100)
	list := []string{"a", "bb", "a", "ccc", "spare 1", "spare 2"}
	was := slices.Clone(list)
	bulk(t, d, []int{1, 1, 1, 1}, list[:4]...)
	if !slices.Equal(list, was) {
		t.Errorf("P2: Bulk wrote into its list: %q", list)
	}
	before := all(t, d)
	for i := range list {
		list[i] = "-"
	}
	if !same(all(t, d), before) {
		t.Errorf("P2: Bulk kept its list")
	}
}

func TestBulkAnswersAreNew(t *testing.T) {
	d := start(t, 2, 4)
	first, _ := d.Bulk([]string{"aaaa", "fives"})
	second, _ := d.Bulk([]string{"aaaa", "fives"})
	scribble(first, 9)
	if !slices.Equal(second, []int{1, 3}) {
		t.Errorf("P2: two answers of Bulk share memory: %v", second)
	}
	bulk(t, d, []int{1, 3}, "aaaa", "fives")
}

func TestRingAnswersAreNew(t *testing.T) {
	d := start(t, 1, 100)
	bulk(t, d, []int{1, 1, 1}, "a", "bb", "ccc")
	first, second := ring(t, d, 0), ring(t, d, 0)
	was := slices.Clone(second)
	scribble(first, api.Slot{Name: "-", Marked: true, Pins: 7})
	if !slices.Equal(second, was) {
		t.Errorf("P2: two answers of Ring share memory: %#v", second)
	}
	check(t, d, 0, "a", "bb", "ccc")
	bulk(t, d, []int{1}, "dddd")
	if !slices.Equal(second, was) {
		t.Errorf("P2: a Bulk writes into an answer of Ring: %#v", second)
	}
	check(t, d, 0, "a", "bb", "ccc", "dddd")
}

func TestLookAnswersAreNew(t *testing.T) {
	d := start(t, 1, 100)
	bulk(t, d, []int{1}, "ccc")
	first, second := d.Look(), d.Look()
	scribble(first.Bytes, 99)
	bulk(t, d, []int{1}, "dddd")
	if !slices.Equal(second.Bytes, []int{3}) {
		t.Errorf("P2: an answer of Look is not the caller's own: %v", second.Bytes)
	}
	check(t, d, 0, "ccc", "dddd")
}

// scribble writes into a list and into its spare room.
func scribble[T any](list []T, junk T) {
	list = list[:cap(list)]
	for i := range list {
		list[i] = junk
	}
}

func TestDepotsAreApart(t *testing.T) {
	a, b := start(t, 2, 10), start(t, 2, 10)
	bulk(t, a, []int{1, 1, 3}, "aaaa", "bb", "eleven byte")
	if got := b.Look().Bytes; !slices.Equal(got, []int{0, 0}) {
		t.Errorf("P2: one depot stored, another holds %v", got)
	}
	before := all(t, a)
	bulk(t, b, []int{1, 1}, "aaaa", "ten bytes!")
	if !same(all(t, a), before) {
		t.Errorf("P2: one depot's Bulk changed another")
	}
}

func TestConnectionsOfDepotsAreApart(t *testing.T) {
	a, b := talk(t, 1, 10, 1), talk(t, 1, 10, 1)
	bulk(t, a, []int{1}, "aaaa")
	bulk(t, b, []int{1}, "aaaa")
	ask(t, a, 0, api.Find, "\x05"+list(t, "aaaa"), 1, "\x01\x00\x00\x00\x01\x01\x01")
	ask(t, a, 0, api.Put, "key1\x02hi", 1, "")
	tick(t, a, 1)
	feed(t, a, 0, "\x00\x00", api.OK)
	pick(t, a, 0, "4")
	look(t, a, 1, 1, 1, 1)
	look(t, b, 0, 0, 0, 1)
	check(t, b, 0, "aaaa")
	pick(t, b, 0, "0")
	take(t, b, 0, "")
	ask(t, b, 0, api.Get, "key1", 1, "\x00")
	ask(t, b, 0, api.Find, "\x05"+list(t, "aaaa"), 1, "\x01\x00\x00\x00\x01\x01\x01")
}

// someBlobs gives up to MaxBulk blobs, of which many come again.
func someBlobs(r *rand.Rand) []string {
	blobs := make([]string, r.Intn(api.MaxBulk+1))
	for i := range blobs {
		k := r.Intn(150)
		blobs[i] = strings.Repeat(string([]byte{byte(k)}), k*5%(api.MaxBlob+1))
	}
	return blobs
}

// A Bulk's shards run beside one another: it must tell what one blob behind the other would.
func TestBulkIsOneBehindTheOther(t *testing.T) {
	for seed := range int64(60) {
		r := rand.New(rand.NewSource(seed))
		shards, room := 1+r.Intn(8), 1+r.Intn(600)
		whole, single := start(t, shards, room), start(t, shards, room)
		for range 20 {
			blobs := someBlobs(r)
			got, e := whole.Bulk(blobs)
			var want []int
			for _, b := range blobs {
				one, _ := single.Bulk([]string{b})
				want = append(want, one...)
			}
			if !slices.Equal(got, want) || e != api.OK {
				t.Fatalf("P4: seed %d: Bulk tells %v, %d; one at a time: %v", seed, got, e, want)
			}
			if !same(all(t, whole), all(t, single)) {
				t.Fatalf("P4: seed %d: Bulk leaves other rings than one at a time", seed)
			}
		}
	}
}

// A shard of many is as a depot of that one shard.
func TestShardsAreApart(t *testing.T) {
	for seed := range int64(60) {
		r := rand.New(rand.NewSource(seed))
		shards, room := 1+r.Intn(8), 1+r.Intn(600)
		d := start(t, shards, room)
		alone := make([]*depot.Depot, shards)
		for k := range alone {
			alone[k] = start(t, 1, room)
		}
		for range 20 {
			blobs := someBlobs(r)
			d.Bulk(blobs)
			for _, b := range blobs {
				alone[int(nameOf(t, b)[2])%shards].Bulk([]string{b})
			}
			for k, a := range alone {
				if !slices.Equal(ring(t, d, k), ring(t, a, 0)) || d.Look().Bytes[k] != a.Look().Bytes[0] {
					t.Fatalf("P4: seed %d: shard %d of %d is not as it would be alone", seed, k, shards)
				}
			}
		}
	}
}

func TestAnswersDoNotHangOnTheRunning(t *testing.T) {
	run := func(processors int) ([]int, [][]api.Slot) {
		defer runtime.GOMAXPROCS(runtime.GOMAXPROCS(processors))
		r := rand.New(rand.NewSource(1))
		d := start(t, 8, 200)
		var answers []int
		for range 50 {
			got, _ := d.Bulk(someBlobs(r))
			answers = append(answers, got...)
		}
		return answers, all(t, d)
	}
	answers, rings := run(1)
	for range 20 {
		a, l := run(8)
		if !slices.Equal(a, answers) || !same(l, rings) {
			t.Fatalf("P2: the same calls had other answers")
		}
	}
}
