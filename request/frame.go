package request

import (
	"depot/api"
	"depot/numbers"
)

const (
	// LengthSize is how many bytes of a frame tell its length.
	LengthSize = 2
	// LeaseSize is how many bytes tell a lease's number.
	LeaseSize = 4

	kindSize   = 1
	numberSize = 2
	headSize   = kindSize + numberSize

	replied = 128 // a reply's kind is so much more than its request's
)

// Refusal tells the frame of the refusal of what stands inside a frame.
func Refusal(inside []byte) []byte {
	number := 0
	if len(inside) >= headSize {
		number = numbers.Of(string(inside[kindSize:headSize]))
	}
	return frame(api.Refused, number, []byte{1})
}

func frame(kind, number int, body []byte) []byte {
	out := numbers.Append(nil, headSize+len(body), LengthSize)
	out = numbers.Append(out, kind, kindSize)
	out = numbers.Append(out, number, numberSize)
	return append(out, body...)
}
