package sum

import (
	"crypto/sha256"
	"encoding/hex"
	"math/big"
	"strings"
	"testing"
)

func TestKnownSums(t *testing.T) {
	for text, want := range map[string]string{
		"":    "e3b0c44298fc1c149afbf4c8996fb92427ae41e4649b934ca495991b7852b855",
		"abc": "ba7816bf8f01cfea414140de5dae2223b00361a396177a9cb410ff61f20015ad",
		"abcdbcdecdefdefgefghfghighijhijkijkljklmklmnlmnomnopnopq": "248d6a61d20638b8e5c026930c3e6039a33ce45964ff2167f6ecedd419db06c1",
	} {
		got := Of(text)
		if hex.EncodeToString(got[:]) != want {
			t.Errorf("Of(%q) = %x, want %s", text, got, want)
		}
	}
}

// Every length about the ends of blocks, with bytes of all values.
func TestEachLength(t *testing.T) {
	var text strings.Builder
	for n := range 300 {
		if got, want := Of(text.String()), sha256.Sum256([]byte(text.String())); got != want {
			t.Errorf("Of %d bytes = %x, want %x", n, got, want)
		}
		text.WriteByte(byte(n*89 + n/256))
	}
}

func TestEachByte(t *testing.T) {
	for b := range 256 {
		text := strings.Repeat(string([]byte{byte(b)}), 120)
		if got, want := Of(text), sha256.Sum256([]byte(text)); got != want {
			t.Errorf("Of 120 bytes %d = %x, want %x", b, got, want)
		}
	}
}

func TestWordsAreRoots(t *testing.T) {
	first := begin()
	for i, p := range primes(rounds) {
		if i < len(first) && first[i] != rootBits(p, 2) {
			t.Errorf("square root of %d: %08x, want %08x", p, first[i], rootBits(p, 2))
		}
		if roundWords[i] != rootBits(p, 3) {
			t.Errorf("cube root of %d: %08x, want %08x", p, roundWords[i], rootBits(p, 3))
		}
	}
}

func primes(count int) []int64 {
	var out []int64
	for n := int64(2); len(out) < count; n++ {
		if big.NewInt(n).ProbablyPrime(0) {
			out = append(out, n)
		}
	}
	return out
}

// rootBits gives the first 32 bits behind the point of a root of n.
func rootBits(n, power int64) uint32 {
	// The root of n shifted left by 32 bits for each power is the root shifted left by 32 bits.
	scaled := new(big.Int).Lsh(big.NewInt(n), uint(32*power))
	low, high := big.NewInt(0), new(big.Int).Lsh(big.NewInt(n), 32)
	one := big.NewInt(1)
	for low.Cmp(high) < 0 {
		middle := new(big.Int).Add(low, high)
		middle.Add(middle, one).Rsh(middle, 1)
		if new(big.Int).Exp(middle, big.NewInt(power), nil).Cmp(scaled) <= 0 {
			low = middle
		} else {
			high = middle.Sub(middle, one)
		}
	}
	return uint32(low.Uint64())
}
