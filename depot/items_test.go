package depot_test

import (
	"fmt"
	"strings"
	"testing"

	"depot/api"
	"depot/depot"
)

// These tests are of P8 and P9: what is done with an item, and what it tells.

func TestFindPinsAndDoesNotMark(t *testing.T) {
	d := talk(t, 1, 10, 1)
	bulk(t, d, []int{1, 1, 1, 1}, "aaaa", "", "bb", "bb")
	ask(t, d, 0, api.Find, "\x05"+list(t, "aaaa", "x", "", "bb"), 4, "\x01\x00\x00\x00\x01\x04\x01\x00\x01\x01")
	check(t, d, 0, "aaaa!", "!", "bb*!")
}

func TestFindPinsAnItemAtATime(t *testing.T) {
	d := talk(t, 1, 10, 2)
	bulk(t, d, []int{1, 1}, "aaaa", "bb")
	feed(t, d, 0, asks(api.Find, 1, "\x05"+list(t, "aaaa", "cc", "bb")), api.OK)
	pick(t, d, 0, "1")
	check(t, d, 0, "aaaa", "bb")
	pick(t, d, 0, "2")
	check(t, d, 0, "aaaa!", "bb")
	bulk(t, d, []int{1}, "cc") // it was not there ahead of the item: told is how it is at the item
	pick(t, d, 0, "2")
	check(t, d, 0, "aaaa!", "bb", "cc!")
	bulk(t, d, []int{1}, "dd")
	ask(t, d, 1, api.Update, stock(t, "fives"), 1, "\x01\x03")
	check(t, d, 0, "aaaa!", "bb", "cc!", "dd")
	ask(t, d, 1, api.Update, stock(t, "ee"), 1, "\x01\x01") // what no item has pinned yet may go
	check(t, d, 0, "cc!", "dd", "aaaa!", "ee")
	pick(t, d, 0, "23")
	take(t, d, 0, asks(129, 1, "\x01\x00\x00\x00\x01\x03\x01\x01\x00"))
}

func TestANameTwiceInOneFind(t *testing.T) {
	d := talk(t, 1, 10, 1)
	bulk(t, d, []int{1, 1}, "aaaa", "bb")
	ask(t, d, 0, api.Find, "\x05"+list(t, "aaaa", "aaaa"), 2, "\x01\x00\x00\x00\x01\x02\x01\x01")
	check(t, d, 0, "aaaa!!", "bb")
	ask(t, d, 0, api.Find, "\x05"+list(t, "aaaa", "bb", "aaaa"), 3, "\x01\x00\x00\x00\x02\x03\x01\x01\x01")
	check(t, d, 0, "aaaa!!!!", "bb!")
	ask(t, d, 0, api.Release, "\x00\x00\x00\x01", 1, "\x01")
	check(t, d, 0, "aaaa!!", "bb!")
	tick(t, d, 5)
	check(t, d, 0, "aaaa", "bb")
}

func TestFindsOfShards(t *testing.T) {
	for shards := 1; shards <= api.MaxShards; shards++ {
		d := talk(t, shards, 20, 1)
		bulk(t, d, []int{1, 1}, "abc", "")
		ask(t, d, 0, api.Find, "\x05"+list(t, "", "abc"), 2, "\x01\x00\x00\x00\x01\x02\x01\x01")
		ask(t, d, 0, api.Read, list(t, "abc", ""), 2, "\x02\x01\x00\x03abc\x01\x00\x00")
		for k := range shards {
			for _, s := range ring(t, d, k) {
				if s.Pins != 1 || !s.Marked {
					t.Errorf("P8: of %d shards: %+v", shards, s)
				}
			}
		}
		tick(t, d, 5)
		for k := range shards {
			for _, s := range ring(t, d, k) {
				if s.Pins != 0 {
					t.Errorf("P10: of %d shards, behind the lease: %+v", shards, s)
				}
			}
		}
	}
}

// A name is all of its 34 bytes: another length with the same sum is another name.
func TestNamesThatAreAlike(t *testing.T) {
	d := talk(t, 1, 20, 1)
	bulk(t, d, []int{1}, "abc")
	other := "\x00\x04" + nameOf(t, "abc")[2:]
	ask(t, d, 0, api.Find, "\x05\x01"+other, 1, "\x01\x00\x00\x00\x01\x01\x00")
	ask(t, d, 0, api.Read, "\x01"+other, 1, "\x01\x00")
	ask(t, d, 0, api.Update, "\x01"+other+"abcd", 1, "\x01\x02")
	check(t, d, 0, "abc")
}

func TestReadMarks(t *testing.T) {
	d := talk(t, 1, 130, 1)
	long := strings.Repeat("\xff\x00", 60)
	bulk(t, d, []int{1, 1, 1, 1}, "aaaa", "", long, "bb")
	ask(t, d, 0, api.Read, list(t, long, "x", "", "aaaa"), 4, "\x04\x01\x00\x78"+long+"\x00\x01\x00\x00\x01\x00\x04aaaa")
	check(t, d, 0, "aaaa*", "*", long+"*", "bb")
	ask(t, d, 0, api.Read, list(t, "bb", "bb"), 2, "\x02\x01\x00\x02bb\x01\x00\x02bb")
	check(t, d, 0, "aaaa*", "*", long+"*", "bb*")
}

func TestTheGreatestReply(t *testing.T) {
	d := talk(t, 1, 4000, 1)
	blobs, want := []string{}, "\x10"
	for i := range 16 {
		blobs = append(blobs, strings.Repeat(string(rune('A'+i)), 120))
		want += "\x01\x00\x78" + blobs[i]
	}
	for i := range 16 {
		ask(t, d, 0, api.Update, stock(t, blobs[i]), 1, "\x01\x01")
	}
	ask(t, d, 0, api.Read, list(t, blobs...), 16, want)
}

// The bytes are told as they are at the item, though the blob goes ahead of the reply.
func TestReadTellsWhatWasThere(t *testing.T) {
	d := talk(t, 1, 4, 1)
	bulk(t, d, []int{1}, "aaaa")
	feed(t, d, 0, asks(api.Read, 1, list(t, "aaaa", "aaaa", "bbbb")), api.OK)
	pick(t, d, 0, "12")
	bulk(t, d, []int{1}, "bbbb")
	check(t, d, 0, "bbbb")
	pick(t, d, 0, "223")
	take(t, d, 0, asks(130, 1, "\x03\x01\x00\x04aaaa\x00\x01\x00\x04bbbb"))
}

func TestUpdate(t *testing.T) {
	d := talk(t, 1, 10, 1)
	body := "\x06" + nameOf(t, "aaaa") + "aaaa" + nameOf(t, "aaaa") + "aaab" + nameOf(t, "eleven byte") + "eleven byte" +
		nameOf(t, "") + nameOf(t, "eleven byte") + "eleven bytE" + nameOf(t, "aaaa") + "aaaa"
	ask(t, d, 0, api.Update, body, 6, "\x06\x01\x02\x03\x01\x02\x01")
	check(t, d, 0, "aaaa*", "")
	ask(t, d, 0, api.Update, stock(t, "bbbb", "cccccc"), 2, "\x02\x01\x01")
	check(t, d, 0, "aaaa", "cccccc")
}

func TestUpdateBesidePins(t *testing.T) {
	d := talk(t, 1, 10, 1)
	bulk(t, d, []int{1, 1}, "aaaa", "bbb")
	ask(t, d, 0, api.Find, "\x05"+list(t, "aaaa"), 1, "\x01\x00\x00\x00\x01\x01\x01")
	ask(t, d, 0, api.Update, stock(t, "7 bytes"), 1, "\x01\x03")
	check(t, d, 0, "aaaa!", "bbb")
	ask(t, d, 0, api.Update, stock(t, "6 byte"), 1, "\x01\x01")
	check(t, d, 0, "aaaa!", "6 byte")
	ask(t, d, 0, api.Update, stock(t, "aaaa"), 1, "\x01\x01")
	check(t, d, 0, "aaaa*!", "6 byte")
	ask(t, d, 0, api.Release, "\x00\x00\x00\x01", 1, "\x01")
	ask(t, d, 0, api.Update, stock(t, "7 bytes"), 1, "\x01\x01")
	check(t, d, 0, "7 bytes")
}

func get(t *testing.T, d *depot.Depot, key, want string) {
	t.Helper()
	ask(t, d, 0, api.Get, key, 1, "\x01"+string([]byte{byte(len(want))})+want)
}

func getNone(t *testing.T, d *depot.Depot, key string) {
	t.Helper()
	ask(t, d, 0, api.Get, key, 1, "\x00")
}

func put(t *testing.T, d *depot.Depot, key, value string) {
	t.Helper()
	ask(t, d, 0, api.Put, key+string([]byte{byte(len(value))})+value, 1, "")
}

func TestActions(t *testing.T) {
	d := talk(t, 1, 10, 1)
	getNone(t, d, "key1")
	long := strings.Repeat("\xff\x00", 25)
	put(t, d, "key1", "hi")
	put(t, d, "key2", long)
	put(t, d, "\x00\x00\x00\x00", "")
	look(t, d, 0, 0, 3, 1)
	get(t, d, "key1", "hi")
	get(t, d, "key2", long)
	get(t, d, "\x00\x00\x00\x00", "")
	getNone(t, d, "key3")
	put(t, d, "key1", "")
	put(t, d, "key2", "other")
	look(t, d, 0, 0, 3, 1)
	get(t, d, "key1", "")
	get(t, d, "key2", "other")
}

func TestTheActionThatJoinedFirstGoes(t *testing.T) {
	d := talk(t, 1, 10, 1)
	key := func(i int) string { return fmt.Sprintf("k%03d", i) }
	for i := range 32 {
		put(t, d, key(i), key(i))
		look(t, d, 0, 0, i+1, 1)
	}
	put(t, d, key(0), "again") // it stays the one that joined first
	put(t, d, key(5), "again")
	get(t, d, key(1), key(1))
	look(t, d, 0, 0, 32, 1)
	for i := range 40 {
		put(t, d, key(100+i), "")
		look(t, d, 0, 0, 32, 1)
		if i < 32 {
			getNone(t, d, key(i))
		} else {
			getNone(t, d, key(100+i-32))
		}
		get(t, d, key(100+i), "")
	}
	put(t, d, key(0), "new") // one that went joins again
	get(t, d, key(0), "new")
	getNone(t, d, key(108))
	get(t, d, key(109), "")
}

// A Put has its value at its item, not when it begins nor when it is told.
func TestActionsChangeAtTheItem(t *testing.T) {
	d := talk(t, 1, 10, 3)
	feed(t, d, 1, asks(api.Put, 1, "key1\x01v"), api.OK)
	feed(t, d, 2, asks(api.Get, 1, "key1"), api.OK)
	pick(t, d, 1, "1")
	pick(t, d, 2, "1")
	getNone(t, d, "key1")
	pick(t, d, 1, "2")
	look(t, d, 0, 0, 1, 3)
	pick(t, d, 2, "2")
	put(t, d, "key1", "w")
	pick(t, d, 2, "3")
	pick(t, d, 1, "3")
	take(t, d, 2, asks(132, 1, "\x01\x01v"))
	get(t, d, "key1", "w")
}
