package names

import (
	"crypto/sha256"
	"strings"
	"testing"

	"depot/api"
)

func TestOf(t *testing.T) {
	for n := range api.MaxBlob + 1 {
		blob := strings.Repeat("n", n)
		sum := sha256.Sum256([]byte(blob))
		if got, want := Of(blob), string([]byte{0, byte(n)})+string(sum[:]); got != want {
			t.Errorf("P3: the name of %d bytes is %x, want %x", n, got, want)
		}
	}
}

func TestShard(t *testing.T) {
	for blob, first := range map[string]int{"": 227, "abc": 186} {
		for shards := 1; shards <= api.MaxShards; shards++ {
			if got := Shard(Of(blob), shards); got != first%shards {
				t.Errorf("the shard of %q among %d is %d, want %d", blob, shards, got, first%shards)
			}
		}
	}
}

func TestShardOfEachByte(t *testing.T) {
	for first := range 256 {
		name := "\x00\x78" + string([]byte{byte(first)}) + strings.Repeat("\xff", api.SumSize-1)
		for shards := 1; shards <= api.MaxShards; shards++ {
			if got := Shard(name, shards); got != first%shards {
				t.Errorf("the shard of the first byte %d among %d is %d", first, shards, got)
			}
		}
	}
}

func TestLength(t *testing.T) {
	for _, n := range []int{0, 1, 120} {
		if got := Length(Of(strings.Repeat("x", n))); got != n {
			t.Errorf("the name of %d bytes tells %d", n, got)
		}
	}
	if got := Length("\xff\x79" + strings.Repeat("s", 32)); got != 0xff79 {
		t.Errorf("the length of a name that is none: %d", got)
	}
}
