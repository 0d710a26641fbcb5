package rxtext

import (
	"facsimile/api"
	"facsimile/rx"
)

// shown is the text of a part, and the kind of the part's last step.
type shown struct {
	text string
	kind api.RxKind
}

// within returns the text of p, in parentheses if its kind is one of kinds.
func (p shown) within(kinds ...api.RxKind) string {
	for _, kind := range kinds {
		if p.kind == kind {
			return "(" + p.text + ")"
		}
	}
	return p.text
}

// Show returns the text of the expression l; "" if it is none.
func Show(l []api.Rx) string {
	if rx.Check(l) != api.OK {
		return ""
	}
	var parts []shown
	for _, step := range l {
		parts = showStep(parts, step)
	}
	return parts[0].text
}

// showStep returns the texts of the parts that there are when the step has made one of those at the end of parts.
func showStep(parts []shown, step api.Rx) []shown {
	var text string
	n := len(parts)
	switch step.Kind {
	case api.RxSet:
		text = ShowSet(step.Set)
	case api.RxEmpty:
		text = "()"
	case api.RxAlt:
		n -= 2
		text = parts[n].text + "|" + parts[n+1].within(api.RxAlt)
	case api.RxCat:
		n -= 2
		text = parts[n].within(api.RxAlt) + parts[n+1].within(api.RxAlt, api.RxCat)
	default:
		n--
		text = parts[n].within(api.RxAlt, api.RxCat) + signOf(step.Kind)
	}
	return append(parts[:n], shown{text, step.Kind})
}

// signOf returns the sign of a step with one operand.
func signOf(kind api.RxKind) string {
	for _, row := range signs {
		if row.kind == kind {
			return string([]byte{row.sign})
		}
	}
	return ""
}
