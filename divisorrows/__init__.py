"""Numbers and what divides them."""
