// Package numbers: numbers in so many bytes, the highest byte first.
package numbers

// Append puts a number in size bytes behind out.
func Append(out []byte, n, size int) []byte {
	for shift := 8 * (size - 1); shift >= 0; shift -= 8 {
		out = append(out, byte(n>>shift))
	}
	return out
}

// Of tells the number that these bytes are.
func Of(bytes string) int {
	n := 0
	for i := range len(bytes) {
		n = n<<8 | int(bytes[i])
	}
	return n
}
