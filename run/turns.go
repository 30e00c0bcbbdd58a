package run

import (
	"iter"

	"pontoon/api"
)

// Turns takes records of these lists in turn, until the list whose turn it is has none left: what was taken, whose turn it is then, and how many were taken of each list.
func Turns(turn int, lists ...[]api.Record) ([]api.Record, int, []int) {
	var taken []api.Record
	counts := make([]int, len(lists))
	for whose, r := range inTurn(turn, lists) {
		taken = append(taken, r)
		counts[whose]++
		turn = (whose + 1) % len(lists)
	}
	return taken, turn, counts
}

// inTurn goes through the records that are taken: from which list, and the record.
func inTurn(turn int, lists [][]api.Record) iter.Seq2[int, api.Record] {
	return func(yield func(int, api.Record) bool) {
		if turn < 0 || turn >= len(lists) {
			return
		}
		whose := turn
	turns:
		for round := 0; ; round++ {
			// In each round each list gives one: so it gives the one whose place is the round's.
			for range lists {
				if round == len(lists[whose]) || !yield(whose, lists[whose][round]) {
					break turns
				}
				whose = (whose + 1) % len(lists)
			}
		}
	}
}
