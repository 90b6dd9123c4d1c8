package shard

import (
	"math/rand"
	"slices"
	"strconv"
	"strings"
	"testing"

	"depot/api"
)

// In these tests a blob's name is its bytes: a shard takes names as they come.

// words tells a ring: a mark as *, each pin as !.
func words(s *Shard) string {
	var out []string
	for _, slot := range s.Slots() {
		word := slot.Name
		if slot.Marked {
			word += "*"
		}
		out = append(out, word+strings.Repeat("!", slot.Pins))
	}
	return strings.Join(out, " ")
}

func store(t *testing.T, s *Shard, want int, blobs ...string) {
	t.Helper()
	for _, b := range blobs {
		if got := s.Store(b, b); got != want {
			t.Errorf("Store(%q) = %d, want %d", b, got, want)
		}
	}
}

func pin(t *testing.T, s *Shard, blobs ...string) {
	t.Helper()
	for _, b := range blobs {
		if !s.Pin(b) {
			t.Errorf("Pin(%q): it is not held", b)
		}
	}
}

func check(t *testing.T, s *Shard, ring string, held int) {
	t.Helper()
	if words(s) != ring || s.Held() != held {
		t.Errorf("the ring is %q of %d bytes, want %q of %d", words(s), s.Held(), ring, held)
	}
}

func TestHeldIsMarkedAlone(t *testing.T) {
	s := New(8)
	store(t, s, api.Stored, "aaaa", "bbbb", "bbbb", "bbbb")
	check(t, s, "aaaa bbbb*", 8)
}

func TestAllMarked(t *testing.T) {
	s := New(6)
	store(t, s, api.Stored, "aa", "bb", "cc", "aa", "bb", "cc")
	check(t, s, "aa* bb* cc*", 6)
	store(t, s, api.Stored, "d")
	check(t, s, "bb cc d", 5)
}

func TestEmptyBlob(t *testing.T) {
	s := New(2)
	store(t, s, api.Stored, "aa", "")
	check(t, s, "aa ", 2)
	s = New(2)
	s.Store("none", "")
	store(t, s, api.Stored, "aa", "bb")
	check(t, s, "bb", 2)
}

func TestHandStaysBehindNewOnes(t *testing.T) {
	s := New(4)
	store(t, s, api.Stored, "a", "b", "c", "d", "a", "b")
	store(t, s, api.Stored, "e")
	check(t, s, "d a b e", 4)
	store(t, s, api.Stored, "f", "g")
	check(t, s, "b e f g", 4)
}

func TestPinsAreGoneBy(t *testing.T) {
	s := New(6)
	store(t, s, api.Stored, "aa", "bb", "cc", "aa")
	pin(t, s, "aa", "aa", "bb")
	check(t, s, "aa*!! bb! cc", 6)
	store(t, s, api.Stored, "dd")
	check(t, s, "aa*!! bb! dd", 6)
	s.Unpin("bb")
	store(t, s, api.Stored, "ee")
	check(t, s, "dd aa*!! ee", 6)
}

func TestPinnedRoom(t *testing.T) {
	s := New(6)
	store(t, s, api.Stored, "aa", "bb", "cc")
	pin(t, s, "bb", "bb", "cc")
	store(t, s, api.NoRoom, "ddd")
	check(t, s, "aa bb!! cc!", 6)
	store(t, s, api.Stored, "dd")
	check(t, s, "bb!! cc! dd", 6)
	s.Unpin("bb")
	store(t, s, api.NoRoom, "eee")
	s.Unpin("bb")
	store(t, s, api.Stored, "eeee")
	check(t, s, "cc! eeee", 6)
}

func TestAllPinned(t *testing.T) {
	s := New(4)
	store(t, s, api.Stored, "aa", "bb")
	pin(t, s, "aa", "bb")
	store(t, s, api.NoRoom, "c")
	store(t, s, api.Stored, "", "aa")
	check(t, s, "aa*! bb! ", 4)
}

func TestRead(t *testing.T) {
	s := New(6)
	s.Store("one", "aa")
	s.Store("none", "")
	for name, want := range map[string]string{"one": "aa", "none": ""} {
		if got, held := s.Read(name); got != want || !held {
			t.Errorf("Read(%q) = %q, %v, want %q", name, got, held, want)
		}
	}
	check(t, s, "one* none*", 2)
	if got, held := s.Read("two"); got != "" || held {
		t.Errorf("Read of a blob that is not held: %q, %v", got, held)
	}
}

func TestHolds(t *testing.T) {
	s := New(6)
	store(t, s, api.Stored, "aa", "")
	if !s.Holds("aa") || !s.Holds("") || s.Holds("bb") {
		t.Errorf("Holds: %v, %v, %v", s.Holds("aa"), s.Holds(""), s.Holds("bb"))
	}
	check(t, s, "aa ", 2)
}

func TestPinOfWhatIsNotHeld(t *testing.T) {
	s := New(4)
	store(t, s, api.Stored, "aa")
	if s.Pin("bb") {
		t.Error("Pin of a blob that is not held tells that it is")
	}
	s.Unpin("bb")
	s.Unpin("aa")
	store(t, s, api.Stored, "cccc")
	check(t, s, "cccc", 4)
}

func TestSlotsAreNew(t *testing.T) {
	s := New(4)
	store(t, s, api.Stored, "aa", "bb")
	l := s.Slots()
	for i := range l[:cap(l)] {
		l[:cap(l)][i] = api.Slot{Name: "-", Marked: true, Pins: 9}
	}
	check(t, s, "aa bb", 4)
}

// plain is a shard by the document's words alone: a ring with a hand in it, and nothing counted.
type plain struct {
	room, hand int
	slots      []api.Slot
}

func (p *plain) bytes(counts func(api.Slot) bool) int {
	n := 0
	for _, s := range p.slots {
		if counts(s) {
			n += len(s.Name)
		}
	}
	return n
}

func (p *plain) find(name string) int {
	return slices.IndexFunc(p.slots, func(s api.Slot) bool { return s.Name == name })
}

func (p *plain) store(b string) int {
	if i := p.find(b); i >= 0 {
		p.slots[i].Marked = true
		return api.Stored
	}
	if len(b) > p.room-p.bytes(func(s api.Slot) bool { return s.Pins > 0 }) {
		return api.NoRoom
	}
	for len(b) > p.room-p.bytes(func(api.Slot) bool { return true }) {
		s := &p.slots[p.hand]
		if s.Pins == 0 && !s.Marked {
			p.slots = slices.Delete(p.slots, p.hand, p.hand+1)
		} else {
			s.Marked = s.Marked && s.Pins > 0
			p.hand++
		}
		if p.hand == len(p.slots) {
			p.hand = 0
		}
	}
	p.slots = slices.Insert(p.slots, p.hand, api.Slot{Name: b})
	if len(p.slots) > 1 {
		p.hand++
	}
	return api.Stored
}

func (p *plain) ring() []api.Slot {
	return slices.Concat(p.slots[p.hand:], p.slots[:p.hand])
}

func TestAgainstPlain(t *testing.T) {
	for seed := range int64(200) {
		r := rand.New(rand.NewSource(seed))
		room := 1 + r.Intn(40)
		s, p := New(room), &plain{room: room}
		for step := range 400 {
			n := r.Intn(20)
			b := strings.Repeat(strconv.Itoa(n), n/2)
			i := p.find(b)
			switch r.Intn(6) {
			case 0:
				if s.Pin(b) != (i >= 0) {
					t.Fatalf("seed %d, step %d: Pin(%q), held at %d", seed, step, b, i)
				}
				if i >= 0 {
					p.slots[i].Pins++
				}
			case 1:
				s.Unpin(b)
				if i >= 0 && p.slots[i].Pins > 0 {
					p.slots[i].Pins--
				}
			default:
				if got, want := s.Store(b, b), p.store(b); got != want {
					t.Fatalf("seed %d, step %d: Store(%q) = %d, want %d", seed, step, b, got, want)
				}
			}
			held := p.bytes(func(api.Slot) bool { return true })
			if !slices.Equal(s.Slots(), p.ring()) || s.Held() != held || held > room {
				t.Fatalf("seed %d, step %d: %q of %d bytes, want %v of %d", seed, step, words(s), s.Held(), p.ring(), held)
			}
		}
	}
}
