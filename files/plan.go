package files

// The kinds of a step.
const (
	KindSend = "send"
	KindDrop = "drop"
	KindKeep = "keep"
)

// planned goes through both lists at once, as the names of both rise.
func planned(from, to []Line) []Step {
	var steps []Step
	for len(from) > 0 || len(to) > 0 {
		switch {
		case aheadOf(from, to):
			steps = append(steps, Step{Kind: KindSend, Name: from[0].Name})
			from = from[1:]
		case aheadOf(to, from):
			steps = append(steps, Step{Kind: KindDrop, Name: to[0].Name})
			to = to[1:]
		default:
			steps = append(steps, Step{Kind: kindOfBoth(from[0], to[0]), Name: from[0].Name})
			from, to = from[1:], to[1:]
		}
	}
	return steps
}

// aheadOf: the first name of l is one that other does not have.
func aheadOf(l, other []Line) bool {
	return len(l) > 0 && (len(other) == 0 || l[0].Name < other[0].Name)
}

// kindOfBoth for a name that both lists have.
func kindOfBoth(from, to Line) string {
	if from.N == to.N && from.Sum == to.Sum {
		return KindKeep
	}
	return KindSend
}
