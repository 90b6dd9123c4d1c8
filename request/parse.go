package request

import (
	"depot/api"
	"depot/names"
	"depot/numbers"
)

const keySize = 4

// Parse reads what stands inside a frame; false, if that is no request.
func Parse(inside []byte) (Request, bool) {
	r := &reader{rest: inside}
	asked := r.request()
	if asked == nil || r.failed || len(r.rest) > 0 {
		return nil, false
	}
	return asked, true
}

// reader takes apart what stands inside a frame. Once it met what may not be it
// has failed, for good: so its pieces can be asked for one behind the other, and
// whether they were all there at the end.
type reader struct {
	rest   []byte
	failed bool
}

// request reads any kind; nil, if there is none such.
func (r *reader) request() Request {
	kind := r.number(kindSize)
	h := head{kind: kind, number: r.number(numberSize)}
	switch kind {
	case api.Find:
		ttl := r.within(1, api.MaxTtl)
		return Find{head: h, list: r.list(), Ttl: ttl}
	case api.Read:
		return Read{head: h, list: r.list()}
	case api.Update:
		return Update{head: h, Blobs: r.blobs()}
	case api.Get:
		return Get{head: h, Key: r.take(keySize)}
	case api.Put:
		key := r.take(keySize)
		return Put{head: h, Key: key, Value: r.take(r.within(0, api.MaxValue))}
	case api.Release:
		return Release{head: h, Lease: r.number(LeaseSize)}
	}
	return nil
}

// take gives the next bytes, so many. They are a text of their own, as what is
// kept of a request must not keep the frame.
func (r *reader) take(count int) string {
	if r.failed || len(r.rest) < count {
		r.failed = true
		return ""
	}
	out := string(r.rest[:count])
	r.rest = r.rest[count:]
	return out
}

// number gives the number in the next bytes, so many.
func (r *reader) number(size int) int {
	return numbers.Of(r.take(size))
}

// within gives the number in the next byte, which must be one from low to high.
func (r *reader) within(low, high int) int {
	n := r.number(1)
	if n < low || n > high {
		r.failed = true
		return 0
	}
	return n
}

func (r *reader) name() string {
	name := r.take(api.NameSize)
	if !r.failed && names.Length(name) > api.MaxBlob {
		r.failed = true
	}
	return name
}

func (r *reader) list() list {
	var l list
	for range r.within(1, api.MaxItems) {
		l.Names = append(l.Names, r.name())
	}
	return l
}

func (r *reader) blobs() []Blob {
	var out []Blob
	for range r.within(1, api.MaxItems) {
		out = append(out, r.blob())
	}
	return out
}

func (r *reader) blob() Blob {
	name := r.name()
	if r.failed {
		return Blob{}
	}
	return Blob{Name: name, Bytes: r.take(names.Length(name))}
}
