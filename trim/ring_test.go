package trim

import (
	"math/rand/v2"
	"testing"
)

// TestRing holds a ring against a plain list, at all lengths and places that puts and takes in any order come to.
func TestRing(t *testing.T) {
	draw := rand.New(rand.NewPCG(7, 1))
	for range 200 {
		var r ring[string]
		var list []string
		for range 100 {
			if draw.IntN(5) < 3 {
				item := string(rune('a' + draw.IntN(26)))
				r.put(item)
				list = append(list, item)
				continue
			}
			item, ok := r.take()
			if ok != (len(list) > 0) || ok && item != list[0] || !ok && item != "" {
				t.Fatalf("P7.2: taken %q, %v, of %v", item, ok, list)
			}
			list = list[min(1, len(list)):]
		}
		if len(r.items) > 2*100 {
			t.Fatalf("P7.7: %d places for 100 items", len(r.items))
		}
	}
}

func TestRingKeepsItsRoom(t *testing.T) {
	var r ring[int]
	for i := range 10000 {
		r.put(i)
		r.put(i)
		r.take()
		if item, ok := r.take(); !ok || item != i || len(r.items) > 3 {
			t.Fatalf("P7.7: %d, %v at %d, in %d places", item, ok, i, len(r.items))
		}
	}
}
