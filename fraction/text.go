package fraction

import (
	"strings"

	"robotics/api"
	"robotics/natural"
)

// Format returns the text of a, such as -3/4 or 5.
func Format(a api.Frac) string {
	text := natural.Format(a.Num)
	if a.Neg {
		text = "-" + text
	}
	if isOne(a.Den) {
		return text
	}
	return text + "/" + natural.Format(a.Den)
}

// Parse returns the fraction with this text.
func Parse(s string) (api.Frac, api.Errno) {
	unsigned, neg := strings.CutPrefix(s, "-")
	before, after, slash := strings.Cut(unsigned, "/")
	num, e := natural.Parse(before)
	if e != api.OK {
		return api.Frac{}, e
	}
	den := natural.Of(1)
	if slash {
		den, e = natural.Parse(after)
		if e != api.OK {
			return api.Frac{}, e
		}
	}
	parsed := api.Frac{Neg: neg, Num: num, Den: den}
	// A denominator of 1 is not written; one of 0 is not valid.
	if slash && isOne(den) || !Valid(parsed) {
		return api.Frac{}, api.ErrFormat
	}
	return parsed, api.OK
}
