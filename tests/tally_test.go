package tests

import "testing"

// tally counts how many were good and how many were not, so that a test which met but few of either is found out.
type tally struct {
	good int
	bad  int
}

func (c *tally) count(is bool) {
	if is {
		c.good++
	} else {
		c.bad++
	}
}

func (c *tally) wantBoth(t *testing.T, good int, bad int) {
	t.Helper()
	if c.good < good || c.bad < bad {
		t.Errorf("%d were good, %d were not", c.good, c.bad)
	}
}
