package value

import (
	"cmp"
	"slices"

	"robotics/api"
)

// part returns the value to which a step leads from another one.
func part(v api.Value, step int) (api.Value, bool) {
	if v.Kind != api.KList {
		return field(v, step)
	}
	if step < 0 || step >= len(v.L) {
		return api.Value{}, false
	}
	return v.L[step], true
}

// field returns the value of the first entry of a struct with this number.
func field(v api.Value, number int) (api.Value, bool) {
	if v.Kind != api.KStruct {
		return api.Value{}, false
	}
	i := indexOf(v.F, number)
	if i < 0 {
		return api.Value{}, false
	}
	return v.F[i].Value, true
}

// indexOf returns the index of the first entry with this number, or -1.
func indexOf(entries []api.Entry, number int) int {
	return slices.IndexFunc(entries, func(f api.Entry) bool { return f.Number == number })
}

func compareEntries(a, b api.Entry) int {
	if order := cmp.Compare(a.Number, b.Number); order != 0 {
		return order
	}
	return Compare(a.Value, b.Value)
}

// renew returns a value in new memory.
func renew(v api.Value) api.Value {
	v.L, v.F = slices.Clone(v.L), slices.Clone(v.F)
	for i, x := range v.L {
		v.L[i] = renew(x)
	}
	for i, f := range v.F {
		v.F[i].Value = renew(f.Value)
	}
	return v
}
