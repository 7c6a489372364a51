package schematext

import (
	"strconv"

	"robotics/api"
	"robotics/lexer"
	"robotics/schema"
)

// isTypeName reports whether s is a name with a capital letter at first.
func isTypeName(s string) bool {
	return lexer.IsName(s) && 'A' <= s[0] && s[0] <= 'Z'
}

// beginType returns the type that begins with a word, without what follows the
// word, if there is such a type.
func beginType(word string) (api.Type, bool) {
	switch word {
	case "bool":
		return api.Type{Kind: api.KBool}, true
	case "int8":
		return api.Type{Kind: api.KInt, Size: 8}, true
	case "int16":
		return api.Type{Kind: api.KInt, Size: 16}, true
	case "int32":
		return api.Type{Kind: api.KInt, Size: 32}, true
	case "int64":
		return api.Type{Kind: api.KInt, Size: 64}, true
	case "uint8":
		return api.Type{Kind: api.KUint, Size: 8}, true
	case "uint16":
		return api.Type{Kind: api.KUint, Size: 16}, true
	case "uint32":
		return api.Type{Kind: api.KUint, Size: 32}, true
	case "text":
		return api.Type{Kind: api.KText}, true
	case "list":
		return api.Type{Kind: api.KList}, true
	}
	return api.Type{Kind: api.KStruct, Name: word}, isTypeName(word)
}

// resolve gives the types of a schema that was read, and that belongs to
// nobody else, the kind of an enumeration where they have the name of one.
// This must wait for the end of the text, which may define it last.
func resolve(s api.Schema) {
	for _, t := range s.Structs {
		for i := range t.Fields {
			inner := innermost(&t.Fields[i].Type)
			if _, ok := schema.Enum(s, inner.Name); ok && inner.Kind == api.KStruct {
				inner.Kind = api.KEnum
			}
		}
	}
}

// innermost returns the type within all lists of a type that was read.
func innermost(t *api.Type) *api.Type {
	for t.Kind == api.KList {
		t = &t.Elem[0]
	}
	return t
}

// countLists returns the number of nested lists of a type that was read.
func countLists(t api.Type) int {
	lists := 0
	for t.Kind == api.KList {
		t = t.Elem[0]
		lists++
	}
	return lists
}

// isWritable reports whether a type can be written that may have so many
// nested lists.
func isWritable(t api.Type, lists int) bool {
	switch t.Kind {
	case api.KList:
		return lists > 0 && t.Size >= 0 && t.Name == "" && len(t.Elem) == 1 && isWritable(t.Elem[0], lists-1)
	case api.KStruct, api.KEnum:
		return t.Size == 0 && isTypeName(t.Name) && len(t.Elem) == 0
	}
	return isPlainSize(t.Kind, t.Size) && t.Name == "" && len(t.Elem) == 0
}

// isPlainSize reports whether types of this kind and size consist of nothing
// else.
func isPlainSize(kind, size int) bool {
	switch kind {
	case api.KBool:
		return size == 0
	case api.KInt:
		if size == 64 {
			return true
		}
		fallthrough
	case api.KUint:
		return size == 8 || size == 16 || size == 32
	case api.KText:
		return size >= 0
	}
	return false
}

// writeType returns the text of a type that can be written.
func writeType(t api.Type) string {
	prefix := ""
	switch t.Kind {
	case api.KBool:
		return "bool"
	case api.KUint:
		prefix = "u"
		fallthrough
	case api.KInt:
		return prefix + "int" + strconv.Itoa(t.Size)
	case api.KText:
		return "text[" + strconv.Itoa(t.Size) + "]"
	case api.KList:
		return "list[" + strconv.Itoa(t.Size) + "] of " + writeType(t.Elem[0])
	}
	return t.Name
}
