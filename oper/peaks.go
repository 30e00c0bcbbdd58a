package oper

import "math"

// lowest stands where there is no number: none is lower, so it is never the greater one.
const lowest = math.MinInt64

// peaks is a tree of numbers: the second half is the numbers by their places, and each pair's greater one stands at half its place.
type peaks []int64

func newPeaks(places int) peaks {
	half := 1
	for half < places {
		half *= 2
	}
	p := make(peaks, 2*half)
	for i := range p {
		p[i] = lowest
	}
	return p
}

func (p peaks) set(place int, n int64) {
	at := len(p)/2 + place
	p[at] = n
	for at > 1 {
		at /= 2
		p[at] = max(p[2*at], p[2*at+1])
	}
}

// first tells the first place with a number greater than that, if there is one.
func (p peaks) first(than int64) (int, bool) {
	if p[1] <= than {
		return 0, false
	}
	half, at := len(p)/2, 1
	for at < half {
		at *= 2
		if p[at] <= than {
			at++
		}
	}
	return at - half, true
}
