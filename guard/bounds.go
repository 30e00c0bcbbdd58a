package guard

import "pontoon/api"

// sound is g, or New, if g may not be.
func sound(g api.Guard) api.Guard {
	if Check(g) != api.OK {
		return New()
	}
	return g
}

// bounded is g with each number moved within its bounds, so that it is g alone if g may be. A bound hangs on the numbers that were moved ahead of it.
func bounded(g api.Guard) api.Guard {
	g.Clock = within(g.Clock, api.MaxNum)
	g.Epoch = within(g.Epoch, api.MaxNum)
	g.Until = within(g.Until, lastUntil(g))
	g.Serial = within(g.Serial, api.MaxNum)
	g.Kind = within(g.Kind, lastKind(g))
	g.Asked = within(g.Asked, lastAsked(g))
	return g
}

// lastUntil is until when a region of g's clock and epoch can believe.
func lastUntil(g api.Guard) int64 {
	if g.Epoch == 0 {
		return 0
	}
	return later(g.Clock, api.GuardTicks)
}

// lastKind is the last kind of question that a region of g's epoch and serial can have asked.
func lastKind(g api.Guard) int {
	switch {
	case g.Serial == 0:
		return 0
	case g.Epoch == 0:
		return api.GdAcquire
	}
	return api.GdRenew
}

// lastAsked is when a region of g's clock and kind can have asked.
func lastAsked(g api.Guard) int64 {
	if g.Kind == 0 {
		return 0
	}
	return g.Clock
}

// within is the number from 0 to last that is nearest to n.
func within[N int | int64](n, last N) N {
	return min(max(n, 0), last)
}

// later is the time n ticks behind clock, at most MaxNum; what is left till then is held against n, as their sum might wrap round.
func later(clock, n int64) int64 {
	return clock + within(n, api.MaxNum-clock)
}
