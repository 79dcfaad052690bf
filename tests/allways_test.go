package tests

import (
	"fmt"
	"testing"
)

// checkAllWays goes from one value to all that steps lead to, till there are so many of them, asks each of them, and does each step in each.
func checkAllWays[T any, S ~func(t *testing.T, x T) T](t *testing.T, first T, many int, steps []S, ask func(t *testing.T, x T)) {
	t.Helper()
	met := map[string]bool{fmt.Sprint(first): true}
	for work := []T{first}; len(work) > 0; work = work[1:] {
		ask(t, work[0])
		for _, step := range steps {
			next := step(t, work[0])
			if key := fmt.Sprint(next); !met[key] && len(met) < many {
				met[key] = true
				work = append(work, next)
			}
		}
	}
	if len(met) < min(many, 20) {
		t.Errorf("%d of them were met", len(met))
	}
}
