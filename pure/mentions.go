package pure

import (
	"cmp"
	"slices"
	"strings"

	"gusset/api"
)

// inOrder are all that were told, each once.
func inOrder(told []api.Found) []api.Found {
	slices.SortFunc(told, func(a, b api.Found) int {
		return cmp.Or(cmp.Compare(a.Kind, b.Kind), cmp.Compare(a.Mod, b.Mod), strings.Compare(a.Name, b.Name))
	})
	return slices.Compact(told)
}
