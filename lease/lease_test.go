package lease

import (
	"slices"
	"testing"

	"depot/api"
)

// given begins a lease of these names and gives it.
func given(t *testing.T, b *Book, now, ttl int, names ...string) *Lease {
	t.Helper()
	l := b.Begin(ttl)
	if l == nil {
		t.Fatal("no lease could be begun")
	}
	for _, n := range names {
		l.Join(n)
	}
	l.Give(now)
	return l
}

func checkDue(t *testing.T, b *Book, now int, left int, want ...string) {
	t.Helper()
	if got := b.EndDue(now); !slices.Equal(got, want) || b.Count() != left {
		t.Errorf("EndDue(%d) = %q with %d left, want %q with %d", now, got, b.Count(), want, left)
	}
}

func TestNumbersDoNotComeAgain(t *testing.T) {
	b := &Book{}
	for i := range 50 {
		l := b.Begin(1)
		if l.Number() != i+1 {
			t.Errorf("lease %d has the number %d", i+1, l.Number())
		}
		b.End(l)
	}
}

func TestAsManyAsMayBe(t *testing.T) {
	b := &Book{}
	first := b.Begin(1)
	for range api.MaxLeases - 1 {
		given(t, b, 0, 100)
	}
	if l := b.Begin(1); l != nil || b.Count() != api.MaxLeases {
		t.Errorf("one lease more than may be: %+v, %d", l, b.Count())
	}
	b.End(first)
	if l := b.Begin(1); l == nil || l.Number() != api.MaxLeases+1 {
		t.Errorf("the lease behind one that was not begun: %+v", l)
	}
}

func TestDeadlines(t *testing.T) {
	b := &Book{}
	begun := b.Begin(1)
	begun.Join("x")
	given(t, b, 10, 5, "a", "b", "a")
	given(t, b, 11, 4, "c")
	given(t, b, 12, 4, "d")
	checkDue(t, b, 14, 4)
	checkDue(t, b, 15, 2, "a", "b", "a", "c")
	checkDue(t, b, 1000, 1, "d")
	begun.Give(1000)
	checkDue(t, b, 1000, 1)
	checkDue(t, b, 1001, 0, "x")
}

func TestGiven(t *testing.T) {
	b := &Book{}
	begun := b.Begin(1)
	l := given(t, b, 0, 1, "a", "a")
	if b.Given(begun.Number()) != nil {
		t.Error("a lease counts as given that was only begun")
	}
	for _, n := range []int{-1, 0, 3, 1<<32 + 2} {
		if b.Given(n) != nil {
			t.Errorf("there is a lease %d", n)
		}
	}
	if b.Given(l.Number()) != l {
		t.Error("a lease that was given is not to be found")
	}
	if got := b.End(l); !slices.Equal(got, []string{"a", "a"}) || b.Given(l.Number()) != nil || b.Count() != 1 {
		t.Errorf("End: %q, %d left", got, b.Count())
	}
}
