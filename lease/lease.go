// Package lease: leases, by which blobs are kept from being thrown out.
package lease

import (
	"slices"

	"depot/api"
)

// Lease is one lease: begun, and later given.
type Lease struct {
	number   int
	ttl      int
	names    []string // one for each pin
	given    bool
	deadline int // from when it is given
}

// Number tells the lease's number.
func (l *Lease) Number() int { return l.number }

// Join puts a name into the lease's list.
func (l *Lease) Join(name string) { l.names = append(l.names, name) }

// Give gives the lease at this time.
func (l *Lease) Give(now int) {
	l.given = true
	l.deadline = now + l.ttl
}

// Book has the leases that have not ended, in the order in which they were begun.
type Book struct {
	leases []*Lease
	begun  int // how many ever were, as numbers don't come again
}

// Count tells how many leases there are.
func (b *Book) Count() int { return len(b.leases) }

// Begin begins a lease; nil, if there are as many as may be.
func (b *Book) Begin(ttl int) *Lease {
	if len(b.leases) >= api.MaxLeases {
		return nil
	}
	b.begun++
	l := &Lease{number: b.begun, ttl: ttl}
	b.leases = append(b.leases, l)
	return l
}

// Given tells the lease of this number; nil, if there is none or it was not given.
func (b *Book) Given(number int) *Lease {
	for _, l := range b.leases {
		if l.number == number && l.given {
			return l
		}
	}
	return nil
}

// End ends a lease; it tells the names that lose a pin each.
func (b *Book) End(l *Lease) []string {
	return b.endAll(func(other *Lease) bool { return other == l })
}

// EndDue ends the leases whose deadline has come; it tells the names that lose a pin each.
func (b *Book) EndDue(now int) []string {
	return b.endAll(func(l *Lease) bool { return l.given && l.deadline <= now })
}

func (b *Book) endAll(ends func(*Lease) bool) []string {
	var out []string
	for _, l := range b.leases {
		if ends(l) {
			out = append(out, l.names...)
		}
	}
	b.leases = slices.DeleteFunc(b.leases, ends)
	return out
}
