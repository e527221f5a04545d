"""How the tests tell points and answers: with signs, turned into the words that the program takes and gives."""

WORDS = 2 ** 32


def told(*points):
    """The list of words for points (t, x, y, brightness)."""
    return [number % WORDS for point in points for number in point]


def at(x, y, brightness=0, t=0):
    """A point at a place."""
    return (t, x, y, brightness)


def long_words(*numbers):
    """The words of 64 bits that numbers are answered as."""
    return [number % 2 ** 64 for number in numbers]


# One step beyond what a point may have, each in one number alone, and words far from any range.
NOT_POINTS = [
    (-1, 0, 0, 0),
    (65536, 0, 0, 0),
    (2 ** 31 - 1, 0, 0, 0),
    (-2 ** 31, 0, 0, 0),
    (0, 32769, 0, 0),
    (0, -32769, 0, 0),
    (0, 2 ** 31 - 1, 0, 0),
    (0, -2 ** 31, 0, 0),
    (0, 0, 32769, 0),
    (0, 0, -32769, 0),
    (0, 0, 2 ** 31 - 1, 0),
    (0, 0, -2 ** 31, 0),
    (0, 0, 0, 65537),
    (0, 0, 0, -65537),
    (0, 0, 0, 2 ** 31 - 1),
    (0, 0, 0, -2 ** 31),
]

# The greatest and the least that a point may have, each in one number alone, and all at once.
EDGE_POINTS = [
    (0, 0, 0, 0),
    (65535, 0, 0, 0),
    (0, 32768, 0, 0),
    (0, -32768, 0, 0),
    (0, 0, 32768, 0),
    (0, 0, -32768, 0),
    (0, 0, 0, 65536),
    (0, 0, 0, -65536),
    (65535, 32768, 32768, 65536),
    (65535, -32768, -32768, -65536),
]


def refuse_change(self, *args, **kwargs):
    raise AssertionError("a list that was handed in was changed")


class Unchanging(list):
    """A list that tells of any change at once, even of one that would be taken back."""

    append = extend = insert = remove = pop = clear = sort = reverse = refuse_change
    __setitem__ = __delitem__ = __iadd__ = __imul__ = refuse_change
