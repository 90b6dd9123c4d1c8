package action

import (
	"strconv"
	"testing"

	"depot/api"
)

func check(t *testing.T, b *Book, key, want string, wantThere bool) {
	t.Helper()
	if got, there := b.Get(key); got != want || there != wantThere {
		t.Errorf("Get(%q) = %q, %v, want %q, %v", key, got, there, want, wantThere)
	}
}

func TestPutAndGet(t *testing.T) {
	b := &Book{}
	check(t, b, "key1", "", false)
	b.Put("key1", "hi")
	b.Put("key2", "")
	check(t, b, "key1", "hi", true)
	check(t, b, "key2", "", true)
	check(t, b, "key3", "", false)
	b.Put("key1", "other")
	check(t, b, "key1", "other", true)
	if b.Count() != 2 {
		t.Errorf("there are %d actions, want 2", b.Count())
	}
}

func TestTheFirstGoes(t *testing.T) {
	b := &Book{}
	key := func(i int) string { return "k" + strconv.Itoa(1000 + i)[1:] }
	for i := range api.MaxActions {
		b.Put(key(i), "v")
	}
	check(t, b, key(0), "v", true)
	b.Put(key(0), "w") // it is there: nothing goes, and it does not join anew
	if b.Count() != api.MaxActions {
		t.Errorf("there are %d actions, want %d", b.Count(), api.MaxActions)
	}
	for i := range 3 {
		b.Put(key(100+i), "x")
		check(t, b, key(i), "", false)
		check(t, b, key(i+1), "v", true)
		check(t, b, key(100+i), "x", true)
		if b.Count() != api.MaxActions {
			t.Errorf("there are %d actions, want %d", b.Count(), api.MaxActions)
		}
	}
}
