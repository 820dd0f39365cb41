package ways

import "testing"

// The ways that each layer leans on (the chapters' sections "Ways"), in the words of look_test.go.
func TestWays(t *testing.T) {
	rows := []struct {
		layer string
		words []string
	}{
		{"code", []string{"method-value"}},
		{"disk", []string{"array"}},
		{"wal", []string{"method-expression"}},
		{"table", []string{"range-function"}},
		{"utf7", []string{"range-string"}},
		{"token", []string{"method-expression"}},
		{"sets", []string{"range-string"}},
		{"stamp", []string{"array"}},
		{"flags", []string{"method-expression"}},
		{"feed", []string{"method-value"}},
		{"command", []string{"method-expression", "closure"}},
		{"reply", []string{"method-expression"}},
		{"header", []string{"range-function"}},
		{"address", []string{"method-value"}},
		{"mime", []string{"closure", "range-function"}},
		{"section", []string{"method-expression"}},
		{"search", []string{"method-expression"}},
		{"house", []string{"method-expression"}},
		{"remote", []string{"method-value"}},
		{"image", []string{"closure"}},
		{"queue", []string{"method-expression"}},
		{"vault", []string{"range-function"}},
		{"view", []string{"label"}},
		{"session", []string{"method-expression"}},
		{"client", []string{"method-expression"}},
		{"sync", []string{"method-expression"}},
		{"proxy", []string{"method-value"}},
		{"audit", []string{"method-expression"}},
		{"script", []string{"label"}},
	}
	for _, r := range rows {
		t.Run(r.layer, func(t *testing.T) {
			miss, err := WaysMissing("..", "cubby", []string{r.layer}, r.words)
			if err != nil {
				t.Fatal(err)
			}
			for _, m := range miss {
				t.Errorf("%s does not lean on %s", r.layer, m)
			}
		})
	}
}
