package window

import "packhorse/api"

// isNumber of a frame. It is asked of whatever comes in: gap and after are right for numbers alone.
func isNumber(n int) bool { return n >= 0 && n < api.Mod }

// begin is the number that a first one stands for.
func begin(first int) int { return max(first, 0) % api.Mod }

func after(n int) int { return (n + 1) % api.Mod }

// gap is how far it is from a on to b.
func gap(a, b int) int { return (b - a + api.Mod) % api.Mod }

// round calls do with each of count numbers from first on.
func round(first, count int, do func(n int)) {
	for n := first; count > 0; count-- {
		do(n)
		n = after(n)
	}
}
