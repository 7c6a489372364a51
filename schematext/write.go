package schematext

import (
	"strconv"
	"strings"

	"robotics/api"
)

// writeEnum returns the line of an enumeration of a valid schema.
func writeEnum(x api.Enum) string {
	var names []string
	for i, name := range x.Names {
		names = append(names, name+" = "+strconv.Itoa(x.Numbers[i]))
	}
	return "enum " + x.Name + " { " + strings.Join(names, ", ") + " }\n"
}

// writeStruct returns the lines of a struct of a valid schema.
func writeStruct(t api.Struct) string {
	text := "struct " + t.Name + " {\n"
	for _, f := range t.Fields {
		text += "  " + writeField(f) + "\n"
	}
	return text + "}\n"
}

func writeField(f api.Field) string {
	text := strconv.Itoa(f.Number) + " " + f.Name + ": " + writeType(f.Type)
	if f.Optional {
		text += "?"
	}
	return text + ";"
}
