package conn

import (
	"depot/api"
	"depot/numbers"
	"depot/request"
)

// incoming is what came in and waits.
type incoming struct {
	waiting []byte
}

// Feed lets bytes come in; false, if more than may be would wait then.
func (in *incoming) Feed(bytes string) bool {
	if len(bytes) > api.MaxIn-len(in.waiting) {
		return false
	}
	in.waiting = append(in.waiting, bytes...)
	return true
}

// Cut takes the frame at the front and tells what stands inside it; false, if
// none is there yet. Two bytes that tell a length that may not be are a frame
// with nothing inside: it is no request, and has no number.
func (in *incoming) Cut() ([]byte, bool) {
	if len(in.waiting) < request.LengthSize {
		return nil, false
	}
	length := numbers.Of(string(in.waiting[:request.LengthSize]))
	if length < 1 || length > api.MaxFrame {
		return nil, true
	}
	end := request.LengthSize + length
	if len(in.waiting) < end {
		return nil, false
	}
	inside := in.waiting[request.LengthSize:end:end]
	in.waiting = in.waiting[end:]
	return inside, true
}

// clear lets go of all that waits.
func (in *incoming) clear() { in.waiting = nil }
