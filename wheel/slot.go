package wheel

import (
	"slices"

	"tramway/api"
)

// running is a timer that is there: at which tick it runs out next, how many ticks behind that again (0: never), and what it tells.
type running struct {
	due, period uint64
	what        int
}

// slot is timers by their numbers: those whose ticks are whole turns of the wheel apart.
type slot map[int]*running

// take gives a timer a number and lays it in. A wheel that New did not make has no slot to lay it in.
func (w *Wheel) take(t running) (int, api.Errno) {
	if len(w.timers) == api.MaxTimers || len(w.slots) == 0 {
		return 0, api.ErrLong
	}
	w.given++
	w.timers[w.given] = &t
	w.lay(w.given, &t)
	return w.given, api.OK
}

func (w *Wheel) place(tick uint64) int { return int(tick % uint64(len(w.slots))) }

func (w *Wheel) lay(number int, t *running) {
	at := w.place(t.due)
	if w.slots[at] == nil {
		w.slots[at] = slot{}
	}
	w.slots[at][number] = t
}

func (w *Wheel) lift(number int, t *running) { delete(w.slots[w.place(t.due)], number) }

// hop goes by the ticks, up to end, at which nothing runs out. To look for them costs as much as a turn does, so that it is left where less than one is ahead.
func (w *Wheel) hop(end uint64) {
	quiet := end - w.now
	if quiet <= uint64(len(w.slots)) {
		return
	}
	if next, is := w.Next(); is {
		quiet = min(quiet, next-1)
	}
	w.now += quiet
}

// turn lets the ticks of one turn go by, up to end, or till enough is told: that, with what was told ahead.
func (w *Wheel) turn(end uint64, told []int) []int {
	for range w.slots {
		if w.now == end || len(told) >= mostTold {
			break
		}
		w.now++
		told = w.runOut(told)
	}
	return told
}

// runOut adds what the timers tell that run out now. The slot's others do so some turns later.
func (w *Wheel) runOut(told []int) []int {
	var out []int
	for number, t := range w.slots[w.place(w.now)] {
		if t.due == w.now {
			out = append(out, number)
		}
	}
	slices.Sort(out)
	for _, number := range out {
		t := w.timers[number]
		told = append(told, t.what)
		w.behind(number, t)
	}
	return told
}

// pass lets all ticks up to end go by at one go, and nothing is told: so it costs no more, however often timers run out.
func (w *Wheel) pass(end uint64) {
	w.now = end
	for number, t := range w.timers {
		if t.due <= end {
			w.behind(number, t)
		}
	}
}

// behind brings a timer that ran out to the first of its times behind now, or takes it away, if it has none.
func (w *Wheel) behind(number int, t *running) {
	w.lift(number, t)
	if t.period == 0 {
		delete(w.timers, number)
		return
	}
	t.due += (w.now-t.due)/t.period*t.period + t.period
	w.lay(number, t)
}
