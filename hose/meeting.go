package hose

import "forecourt/api"

// flush returns a step of which nothing but a flush goes through the hose.
func flush(s api.HoseStep) api.HoseStep {
	s.Kind = 0
	return s
}

// twos yields all lists of two steps, in lexicographic order.
func (w *work) twos(yield func([2]int) bool) {
	for one := range w.Steps {
		for two := range w.Steps {
			if !yield([2]int{one, two}) {
				return
			}
		}
	}
}

// between returns the steps that must come between two.
func (w *work) between(two [2]int) bits {
	var steps bits
	for step := range w.before[two[1]].steps {
		if w.before[step].has(two[0]) {
			steps |= bitsOf(step)
		}
	}
	return steps
}

// canMeet reports whether two steps can meet in a hose. What need not come between
// them can come before the first one, or after the second one.
func (w *work) canMeet(two [2]int) bool {
	one, other := w.Steps[two[0]], w.Steps[two[1]]
	if one == flush(one) || other == flush(other) || one.Hose != other.Hose || one.Kind == other.Kind {
		return false
	}
	_, parted := first(w.between(two).steps, func(step int) bool { return w.Steps[step].Hose == one.Hose })
	return !parted && !w.before[two[0]].has(two[1])
}

// meet returns an order in which nothing comes between two steps that can meet but what must.
func (w *work) meet(two [2]int) []int {
	one, other, between := bitsOf(two[0]), bitsOf(two[1]), w.between(two)
	early := (w.before[two[0]] | w.before[two[1]]) &^ (one | between)
	return w.inParts(early, one, between, other, w.all())
}
