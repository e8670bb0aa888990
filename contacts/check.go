package contacts

import "contacts/api"

func fault(kind api.Errno, what string) error {
	return &api.Fault{Kind: kind, What: what}
}

// letters: is the text one to most letters a to z?
func letters(text string, most int) bool {
	if len(text) < 1 || len(text) > most {
		return false
	}
	for i := range len(text) {
		if text[i] < 'a' || text[i] > 'z' {
			return false
		}
	}
	return true
}

func checkName(name string) error {
	if !letters(name, api.MaxName) {
		return fault(api.ErrName, name)
	}
	return nil
}

// checkPut goes in the document's order: of several faults the first one named there is told.
func checkPut(name, field, value string) error {
	if err := checkName(name); err != nil {
		return err
	}
	if !letters(field, api.MaxField) {
		return fault(api.ErrField, field)
	}
	if len(value) > api.MaxValue {
		return fault(api.ErrValue, value)
	}
	return nil
}

// writable: is it a register that Put or Delete may write? Its stamp may be any: numbers are, and counters grow.
func writable(x api.Register) bool {
	if x.Field == "" {
		return x.Value == "" && checkName(x.Name) == nil
	}
	return checkPut(x.Name, x.Field, x.Value) == nil
}
