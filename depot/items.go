package depot

import (
	"depot/api"
	"depot/conn"
	"depot/lease"
	"depot/names"
	"depot/numbers"
	"depot/request"
	"depot/shard"
)

// blobLengthSize is how many bytes of a reply tell a blob's length.
const blobLengthSize = 2

// doItem does the next item of a request and puts into the reply's body what it tells.
func (d *Depot) doItem(w *conn.Work) {
	i := w.Done
	w.Done++
	var told []byte
	switch r := w.Request.(type) {
	case request.Find:
		told = d.find(r.Names[i], w.Lease)
	case request.Read:
		told = d.read(r.Names[i])
	case request.Update:
		told = d.update(r.Blobs[i])
	case request.Get:
		told = d.get(r.Key)
	case request.Put:
		d.actions.Put(r.Key, r.Value)
	case request.Release:
		told = d.release(r.Lease)
	}
	w.Body = append(w.Body, told...)
}

// find tells if a blob is held; if there is a lease, it pins it (P8).
func (d *Depot) find(name string, l *lease.Lease) []byte {
	s := d.shardOf(name)
	if !s.Holds(name) {
		return no()
	}
	if l != nil {
		s.Pin(name)
		l.Join(name)
	}
	return yes()
}

// read tells a blob's bytes (P8).
func (d *Depot) read(name string) []byte {
	bytes, held := d.shardOf(name).Read(name)
	if !held {
		return no()
	}
	return append(numbers.Append(yes(), len(bytes), blobLengthSize), bytes...)
}

// update stores a blob, if its name is its own (P8).
func (d *Depot) update(b request.Blob) []byte {
	if names.Of(b.Bytes) != b.Name {
		return []byte{api.Wrong}
	}
	return []byte{byte(d.shardOf(b.Name).Store(b.Name, b.Bytes))}
}

// get tells an action's value (P9).
func (d *Depot) get(key string) []byte {
	value, there := d.actions.Get(key)
	if !there {
		return no()
	}
	return append(numbers.Append(yes(), len(value), 1), value...)
}

// release ends a lease that was given, and tells if there was one (P9).
func (d *Depot) release(number int) []byte {
	l := d.leases.Given(number)
	if l == nil {
		return no()
	}
	d.unpin(d.leases.End(l))
	return yes()
}

// tellLease tells a lease, or that there is none (nil).
func tellLease(l *lease.Lease) []byte {
	if l == nil {
		return numbers.Append(no(), 0, request.LeaseSize)
	}
	return numbers.Append(yes(), l.Number(), request.LeaseSize)
}

func yes() []byte { return []byte{1} }

func no() []byte { return []byte{0} }

// unpin takes a pin from the blob of each of these names.
func (d *Depot) unpin(list []string) {
	for _, name := range list {
		d.shardOf(name).Unpin(name)
	}
}

func (d *Depot) shardOf(name string) *shard.Shard {
	return d.shards[names.Shard(name, len(d.shards))]
}
