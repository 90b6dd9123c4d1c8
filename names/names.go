// Package names: the names of blobs, and the shards to which they belong.
package names

import (
	"depot/api"
	"depot/numbers"
	"depot/sum"
)

// lengthSize is how many bytes of a name tell the blob's length.
const lengthSize = api.NameSize - api.SumSize

// Of tells the name of a blob of at most api.MaxBlob bytes.
func Of(blob string) string {
	s := sum.Of(blob)
	out := make([]byte, 0, api.NameSize)
	out = numbers.Append(out, len(blob), lengthSize)
	out = append(out, s[:]...)
	return string(out)
}

// Length tells how long the blob of this name is.
func Length(name string) int {
	return numbers.Of(name[:lengthSize])
}

// Shard tells to which of so many shards a name belongs.
func Shard(name string, shards int) int {
	return int(name[lengthSize]) % shards
}
