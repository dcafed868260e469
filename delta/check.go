package delta

import (
	"ramble/api"
	"ramble/value"
)

// The fields of a change that stand behind its Kind, as bits of a number.
const (
	hasElem = 1 << iota
	hasLabel
	hasOut
	hasIn
	hasName
	hasValue
)

// Check tells whether a change may be: ErrChange, if not.
func Check(c api.Change) api.Errno {
	has := fieldsOf(c.Kind)
	if has == 0 || filled(c)&^has != 0 || !mayBe(c, has) {
		return api.ErrChange
	}
	return api.OK
}

// fieldsOf are the fields that a change of that kind has; none, if there is no such kind.
func fieldsOf(kind int) int {
	switch kind {
	case api.ChAddV:
		return hasElem | hasLabel
	case api.ChAddE:
		return hasElem | hasLabel | hasOut | hasIn
	case api.ChSet:
		return hasElem | hasName | hasValue
	case api.ChUnset:
		return hasElem | hasName
	case api.ChDrop:
		return hasElem
	case api.ChLast:
		return hasOut
	}
	return 0
}

// filled are the fields of c that are not zero.
func filled(c api.Change) int {
	fields := 0
	if !isZero(c.Elem) {
		fields |= hasElem
	}
	if c.Label != "" {
		fields |= hasLabel
	}
	if c.Out != 0 {
		fields |= hasOut
	}
	if c.In != 0 {
		fields |= hasIn
	}
	if c.Name != "" {
		fields |= hasName
	}
	if !isZero(c.Value) {
		fields |= hasValue
	}
	return fields
}

func isZero(v api.Value) bool { return v.Kind == 0 && v.N == 0 && v.S == "" && len(v.L) == 0 }

// mayBe tells whether each field that c has may be what it is.
func mayBe(c api.Change, has int) bool {
	return (has&hasElem == 0 || suits(c.Kind, c.Elem)) &&
		(has&hasLabel == 0 || value.Name(c.Label)) &&
		(has&hasOut == 0 || isId(c.Out)) &&
		(has&hasIn == 0 || isId(c.In)) &&
		(has&hasName == 0 || value.Name(c.Name)) &&
		(has&hasValue == 0 || value.Check(c.Value) == api.OK)
}

// suits tells whether a change of that kind may be one of elem.
func suits(kind int, elem api.Value) bool {
	switch kind {
	case api.ChAddV:
		return isVertex(elem)
	case api.ChAddE:
		return isEdge(elem)
	}
	return isElem(elem)
}

func isVertex(v api.Value) bool { return v.Kind == api.VVertex && value.Check(v) == api.OK }

func isEdge(v api.Value) bool { return v.Kind == api.VEdge && value.Check(v) == api.OK }

func isElem(v api.Value) bool { return isVertex(v) || isEdge(v) }

func isId(id int64) bool { return id >= 1 && id <= api.MaxId }
