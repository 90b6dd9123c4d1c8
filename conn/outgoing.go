package conn

// outgoing is what goes out and was not taken yet.
type outgoing struct {
	going []byte
}

// Send lets a frame go out.
func (out *outgoing) Send(frame []byte) {
	out.going = append(out.going, frame...)
}

// Take takes the first bytes, at most so many.
func (out *outgoing) Take(most int) string {
	count := min(most, len(out.going))
	taken := string(out.going[:count])
	out.going = out.going[count:]
	return taken
}
