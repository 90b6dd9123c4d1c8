// Package sum: the sum of a text, its SHA-256 (FIPS 180-4).
package sum

import (
	"math/bits"

	"depot/api"
)

const (
	blockSize  = 64
	lengthSize = 8
	rounds     = 64
)

// roundWords are the first 32 bits behind the point of the cube roots of the first 64 primes.
var roundWords = [rounds]uint32{
	0x428a2f98, 0x71374491, 0xb5c0fbcf, 0xe9b5dba5, 0x3956c25b, 0x59f111f1, 0x923f82a4, 0xab1c5ed5,
	0xd807aa98, 0x12835b01, 0x243185be, 0x550c7dc3, 0x72be5d74, 0x80deb1fe, 0x9bdc06a7, 0xc19bf174,
	0xe49b69c1, 0xefbe4786, 0x0fc19dc6, 0x240ca1cc, 0x2de92c6f, 0x4a7484aa, 0x5cb0a9dc, 0x76f988da,
	0x983e5152, 0xa831c66d, 0xb00327c8, 0xbf597fc7, 0xc6e00bf3, 0xd5a79147, 0x06ca6351, 0x14292967,
	0x27b70a85, 0x2e1b2138, 0x4d2c6dfc, 0x53380d13, 0x650a7354, 0x766a0abb, 0x81c2c92e, 0x92722c85,
	0xa2bfe8a1, 0xa81a664b, 0xc24b8b70, 0xc76c51a3, 0xd192e819, 0xd6990624, 0xf40e3585, 0x106aa070,
	0x19a4c116, 0x1e376c08, 0x2748774c, 0x34b0bcb5, 0x391c0cb3, 0x4ed8aa4a, 0x5b9cca4f, 0x682e6ff3,
	0x748f82ee, 0x78a5636f, 0x84c87814, 0x8cc70208, 0x90befffa, 0xa4506ceb, 0xbef9a3f7, 0xc67178f2,
}

// state is what is carried from block to block.
type state [8]uint32

// Of tells the sum of a text.
func Of(text string) [api.SumSize]byte {
	h := begin()
	message := padded(text)
	for at := 0; at < len(message); at += blockSize {
		h = h.behind(schedule(message[at : at+blockSize]))
	}
	var out [api.SumSize]byte
	for i, word := range h {
		putNumber(out[4*i:4*i+4], uint64(word))
	}
	return out
}

// begin gives the first 32 bits behind the point of the square roots of the first eight primes.
func begin() state {
	return state{
		0x6a09e667, 0xbb67ae85, 0x3c6ef372, 0xa54ff53a,
		0x510e527f, 0x9b05688c, 0x1f83d9ab, 0x5be0cd19,
	}
}

// padded gives the text with what makes whole blocks of it.
func padded(text string) []byte {
	least := len(text) + 1 + lengthSize
	blocks := (least + blockSize - 1) / blockSize
	out := make([]byte, blocks*blockSize)
	copy(out, text)
	out[len(text)] = 128
	putNumber(out[len(out)-lengthSize:], uint64(len(text))*8)
	return out
}

// putNumber fills all of out with the number, the highest byte first.
func putNumber(out []byte, number uint64) {
	for i := len(out) - 1; i >= 0; i-- {
		out[i] = byte(number)
		number >>= 8
	}
}

// schedule spreads the 16 words of a block over all rounds.
func schedule(block []byte) [rounds]uint32 {
	var w [rounds]uint32
	for i, b := range block {
		w[i/4] = w[i/4]<<8 | uint32(b)
	}
	for t := 16; t < rounds; t++ {
		w[t] = smallOne(w[t-2]) + w[t-7] + smallNought(w[t-15]) + w[t-16]
	}
	return w
}

// behind gives the state behind a block of which w is the schedule.
func (h state) behind(w [rounds]uint32) state {
	s := h
	for t := range rounds {
		s = s.round(roundWords[t] + w[t])
	}
	for i := range s {
		s[i] += h[i]
	}
	return s
}

func (s state) round(word uint32) state {
	a, b, c, d, e, f, g, h := s[0], s[1], s[2], s[3], s[4], s[5], s[6], s[7]
	u := h + bigOne(e) + ((e & f) ^ (^e & g)) + word
	v := bigNought(a) + ((a & b) ^ (a & c) ^ (b & c))
	return state{u + v, a, b, c, d + u, e, f, g}
}

func smallNought(x uint32) uint32 { return right(x, 7) ^ right(x, 18) ^ x>>3 }

func smallOne(x uint32) uint32 { return right(x, 17) ^ right(x, 19) ^ x>>10 }

func bigNought(x uint32) uint32 { return right(x, 2) ^ right(x, 13) ^ right(x, 22) }

func bigOne(x uint32) uint32 { return right(x, 6) ^ right(x, 11) ^ right(x, 25) }

// right turns x right: the library turns left.
func right(x uint32, n int) uint32 { return bits.RotateLeft32(x, -n) }
