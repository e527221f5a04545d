"""What a fit comes to by the words of the document, in another way than the program's, and points to try it on."""

from fractions import Fraction
from math import floor


def has_fit(points):
    return len({point[0] for point in points}) > 1


def line(points, k):
    """Start and speed by least squares, from the means instead of the sums."""
    n = len(points)
    mean_t = Fraction(sum(point[0] for point in points), n)
    mean = Fraction(sum(point[k] for point in points), n)
    spread = sum((point[0] - mean_t) ** 2 for point in points)
    speed = sum((point[0] - mean_t) * (point[k] - mean) for point in points) / spread
    return mean - speed * mean_t, speed


def places(points, times):
    """The fit's places, x and y in 256ths, at each of the times."""
    lines = [line(points, k) for k in (1, 2)]
    return [[floor(256 * (start + speed * t) + Fraction(1, 2)) for start, speed in lines] for t in times]


def worst(points):
    """The farthest that a point is from the fit's place, of 256ths, squared."""
    found = places(points, [point[0] for point in points])
    return max((x - 256 * point[1]) ** 2 + (y - 256 * point[2]) ** 2 for (x, y), point in zip(found, points))


def scattered(many, step, last_time, farthest):
    """Points that lie as if by chance, the same at each run."""
    number = step
    points = []
    for _ in range(many):
        numbers = []
        for limit in (last_time + 1, 2 * farthest + 1, 2 * farthest + 1):
            number = (number * 6364136223846793005 + 1442695040888963407) % 2 ** 64
            numbers.append(number // 2 ** 40 % limit)
        points.append((numbers[0], numbers[1] - farthest, numbers[2] - farthest, 0))
    return points
