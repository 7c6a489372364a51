package schema

import (
	"slices"

	"robotics/api"
	"robotics/lexer"
)

const maxVersion = 999

// Check reports whether s is valid.
func Check(s api.Schema) api.Errno {
	if s.Version < 1 || s.Version > maxVersion {
		return api.ErrRange
	}
	if isLong(s) {
		return api.ErrLong
	}
	d, earlier := define(s), map[string]bool{}
	for _, x := range s.Enums {
		if e := checkEnum(x, earlier); e != api.OK {
			return e
		}
	}
	for _, t := range s.Structs {
		if e := checkStruct(t, earlier, d); e != api.OK {
			return e
		}
	}
	return checkNesting(s, d)
}

// isLong reports whether s has too many definitions, or one of them too many
// names or fields.
func isLong(s api.Schema) bool {
	if len(s.Enums)+len(s.Structs) > api.MaxTypes {
		return true
	}
	for _, x := range s.Enums {
		if len(x.Names) > api.MaxFields {
			return true
		}
	}
	for _, t := range s.Structs {
		if len(t.Fields) > api.MaxFields {
			return true
		}
	}
	return false
}

// checkEnum returns the first error of an enumeration by itself, and adds its
// name to those of the earlier definitions.
func checkEnum(x api.Enum, earlier map[string]bool) api.Errno {
	if e := admit(x.Name, isTypeName, earlier); e != api.OK {
		return e
	}
	if len(x.Names) == 0 || len(x.Numbers) != len(x.Names) {
		return api.ErrFormat
	}
	names := map[string]bool{}
	for i, name := range x.Names {
		if e := admit(name, lexer.IsName, names); e != api.OK {
			return e
		}
		number := x.Numbers[i]
		if number < 0 || number > api.MaxNumber {
			return api.ErrRange
		}
		if i == 0 && number != 0 || i > 0 && number <= x.Numbers[i-1] {
			return api.ErrFormat
		}
	}
	return api.OK
}

// checkStruct returns the first error of a struct by itself, and adds its name
// to those of the earlier definitions.
func checkStruct(t api.Struct, earlier map[string]bool, d definitions) api.Errno {
	if e := admit(t.Name, isTypeName, earlier); e != api.OK {
		return e
	}
	names, before := map[string]bool{}, 0
	for _, f := range t.Fields {
		if f.Number < 1 || f.Number > api.MaxNumber {
			return api.ErrRange
		}
		if f.Number <= before {
			return api.ErrFormat
		}
		if e := admit(f.Name, lexer.IsName, names); e != api.OK {
			return e
		}
		if !d.permits(f.Type) {
			return api.ErrType
		}
		before = f.Number
	}
	return api.OK
}

// checkNesting returns the error of structs that use themselves or are too
// deep, if each definition by itself is valid.
func checkNesting(s api.Schema, d definitions) api.Errno {
	for _, t := range s.Structs {
		if slices.Contains(d.used(t.Name), t.Name) {
			return api.ErrCycle
		}
	}
	depths := map[string]int{}
	for _, t := range s.Structs {
		if d.depth(t.Name, depths) > api.MaxDepth {
			return api.ErrDepth
		}
	}
	return api.OK
}

// admit adds a name to the earlier ones, if it is proper and none of them.
func admit(name string, isProper func(string) bool, earlier map[string]bool) api.Errno {
	if !isProper(name) {
		return api.ErrName
	}
	if earlier[name] {
		return api.ErrExists
	}
	earlier[name] = true
	return api.OK
}

// isTypeName reports whether s is a name with a capital letter at first.
func isTypeName(s string) bool {
	return lexer.IsName(s) && 'A' <= s[0] && s[0] <= 'Z'
}
