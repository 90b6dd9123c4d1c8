// Package request: what clients ask, as it is read from frames, and the frames
// of the replies.
package request

// Request is what was read from a frame, a type of its own for each kind.
type Request interface {
	Items() int               // how many there are to be done
	Reply(body []byte) []byte // the frame of its reply
}

// Find asks which blobs are held, and for a lease of them.
type Find struct {
	head
	list
	Ttl int
}

// Read asks for the bytes of blobs.
type Read struct {
	head
	list
}

// Update gives blobs that are to be stored.
type Update struct {
	head
	Blobs []Blob
}

// Get asks for the value of an action.
type Get struct {
	head
	single
	Key string
}

// Put gives an action its value.
type Put struct {
	head
	single
	Key, Value string
}

// Release lets a lease end.
type Release struct {
	head
	single
	Lease int
}

// Blob is a name and the bytes that are said to have it.
type Blob struct {
	Name, Bytes string
}

// Items tells how many blobs are to be stored.
func (u Update) Items() int { return len(u.Blobs) }

// head is what each request has ahead of its body.
type head struct {
	kind, number int
}

// Reply tells the frame of the reply that has this body.
func (h head) Reply(body []byte) []byte {
	return frame(h.kind+replied, h.number, body)
}

// list is the part of a request that goes through names.
type list struct {
	Names []string
}

// Items tells how many names there are.
func (l list) Items() int { return len(l.Names) }

// single is the part of a request that is done at once.
type single struct{}

// Items is one.
func (single) Items() int { return 1 }
