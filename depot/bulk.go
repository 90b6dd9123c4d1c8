package depot

import (
	"sync"

	"depot/names"
	"depot/shard"
)

// errand is a blob that is to be stored, and what came of it.
type errand struct {
	place  int // in the list that was handed in
	name   string
	blob   string
	answer int
}

// sortOut gives each shard its errands, in the order of the blobs.
func (d *Depot) sortOut(blobs []string) [][]errand {
	lots := make([][]errand, len(d.shards))
	for i, blob := range blobs {
		name := names.Of(blob)
		k := names.Shard(name, len(d.shards))
		lots[k] = append(lots[k], errand{place: i, name: name, blob: blob})
	}
	return lots
}

// storeAll lets all shards store beside one another: each has its own errands,
// so nothing is shared.
func (d *Depot) storeAll(lots [][]errand) {
	var group sync.WaitGroup
	for k := range lots {
		group.Go(func() { storeLot(d.shards[k], lots[k]) })
	}
	group.Wait()
}

func storeLot(s *shard.Shard, lot []errand) {
	for i := range lot {
		lot[i].answer = s.Store(lot[i].name, lot[i].blob)
	}
}

// gather puts the answers back into the order of the blobs.
func gather(lots [][]errand, count int) []int {
	out := make([]int, count)
	for _, lot := range lots {
		for _, e := range lot {
			out[e.place] = e.answer
		}
	}
	return out
}
