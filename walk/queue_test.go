package walk

import (
	"math/rand"
	"slices"
	"strings"
	"testing"
)

func TestQueueGivesTheFirst(t *testing.T) {
	r := rand.New(rand.NewSource(5))
	up := queue[int]{ahead: func(a, b int) bool { return a < b }}
	down := queue[string]{ahead: func(a, b string) bool { return a > b }}
	var numbers []int
	var texts []string
	for range 5000 {
		if n := r.Intn(200); r.Intn(5) < 3 || len(numbers) == 0 {
			numbers = append(numbers, n)
			texts = append(texts, strings.Repeat("x", n))
			up.push(n)
			down.push(strings.Repeat("x", n))
		} else {
			slices.Sort(numbers)
			slices.Sort(texts)
			last := len(texts) - 1
			if n, text := up.pop(), down.pop(); n != numbers[0] || text != texts[last] {
				t.Fatalf("%d, %d bytes, want %d, %d bytes", n, len(text), numbers[0], len(texts[last]))
			}
			numbers, texts = numbers[1:], texts[:last]
		}
		if up.count() != len(numbers) || down.count() != len(texts) {
			t.Fatalf("%d and %d are there, want %d", up.count(), down.count(), len(numbers))
		}
	}
}
