package catalog

import (
	"strings"

	"commissary/api"
)

// Show is t's name, and its columns' names and types.
func Show(t api.Table) string {
	texts := make([]string, len(t.Cols))
	for i, c := range t.Cols {
		texts[i] = c.Name + " " + showType(c.Type)
	}
	return t.Name + "(" + strings.Join(texts, ", ") + ")"
}

func showType(kind int) string {
	switch kind {
	case api.KindBool:
		return "BOOL"
	case api.KindInt:
		return "INT"
	case api.KindText:
		return "TEXT"
	}
	return "?"
}
