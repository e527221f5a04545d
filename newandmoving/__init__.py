"""What moves, what's new: points of the sky, and what has become of them."""
