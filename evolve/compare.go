package evolve

import (
	"slices"

	"robotics/api"
	"robotics/schema"
)

// The kinds of issues.
const (
	issueType     = 1 // the type of a field does not widen the old one
	issueMissing  = 2 // a field that is not optional is only in one schema
	issueOptional = 3 // a field is optional in only one schema
	issueName     = 4 // a number of an enumeration has no name any more
	issueStruct   = 5 // a struct is in only one schema
)

// comparedNames returns a name and those of what this struct uses in both of
// two schemas.
func comparedNames(old, new api.Schema, name string) []string {
	names, used := []string{name}, schema.Uses(new, name)
	for _, n := range schema.Uses(old, name) {
		if slices.Contains(used, n) {
			names = append(names, n)
		}
	}
	return names
}

// comparison collects the issues between two valid schemas.
type comparison struct {
	old, new api.Schema
	issues   []Issue
}

// add adds an issue, unless it is there already.
func (c *comparison) add(issue Issue) {
	for _, known := range c.issues {
		if known == issue {
			return
		}
	}
	c.issues = append(c.issues, issue)
}

// compare adds the issues of the definitions with this name. A valid schema
// has a struct, an enumeration or nothing of a name, so that the numbers of
// enumerations are compared where there are no structs.
func (c *comparison) compare(name string) {
	x, inOld := schema.Struct(c.old, name)
	y, inNew := schema.Struct(c.new, name)
	if inOld != inNew {
		c.add(Issue{Kind: issueStruct, Type: name})
		return
	}
	c.compareFields(x, y)
	c.compareNumbers(name)
}

// compareFields adds the issues of the fields of two structs. It comes twice
// to a field that is in both.
func (c *comparison) compareFields(x, y api.Struct) {
	for _, f := range slices.Concat(x.Fields, y.Fields) {
		before, inOld := schema.FieldOf(x, f.Number)
		after, inNew := schema.FieldOf(y, f.Number)
		issue := Issue{Number: f.Number, Type: x.Name}
		if !inOld || !inNew {
			if !f.Optional {
				issue.Kind = issueMissing
				c.add(issue)
			}
			continue
		}
		if !Widens(before.Type, after.Type) {
			issue.Kind = issueType
			c.add(issue)
		}
		if before.Optional != after.Optional {
			issue.Kind = issueOptional
			c.add(issue)
		}
	}
}

// compareNumbers adds the issues of an enumeration, if it is in both schemas.
func (c *comparison) compareNumbers(name string) {
	x, inOld := schema.Enum(c.old, name)
	y, inNew := schema.Enum(c.new, name)
	if !inOld || !inNew {
		return
	}
	for _, number := range x.Numbers {
		if !slices.Contains(y.Numbers, number) {
			c.add(Issue{Kind: issueName, Number: number, Type: name})
		}
	}
}
