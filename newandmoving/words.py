"""Words with signs, the points that four of them tell, their 256ths, and when lists of points are refused."""

WORDS = 4294967296
LONG_WORDS = 18446744073709551616
LEAST_BELOW_ZERO = 2147483648
NUMBERS_A_POINT = 4
LAST_TIME = 65535
FARTHEST_PLACE = 32768
GREATEST_BRIGHTNESS = 65536
FINE_PARTS = 256


class Point:
    def __init__(self, t, x, y, brightness):
        self.t = t
        self.x = x
        self.y = y
        self.brightness = brightness


# Its x and y are 256ths, so that a place between whole numbers is told as whole numbers too.
class FinePlace:
    def __init__(self, x, y):
        self.x = x
        self.y = y


# Words below 0 come with 2^32 added.
def signed(word):
    if word < LEAST_BELOW_ZERO:
        return word
    return word - WORDS


# Numbers below 0 are answered with 2^64 added.
def long_word(number):
    return number % LONG_WORDS


def count_points(numbers):
    return len(numbers) // NUMBERS_A_POINT


def read_point(numbers, k):
    start = k * NUMBERS_A_POINT
    return Point(
        signed(numbers[start]),
        signed(numbers[start + 1]),
        signed(numbers[start + 2]),
        signed(numbers[start + 3]),
    )


def read_points(numbers):
    return [read_point(numbers, k) for k in range(count_points(numbers))]


def finely(point):
    return FinePlace(FINE_PARTS * point.x, FINE_PARTS * point.y)


# Half is added before rounding down, so that of two as near the greater is taken, below 0 too; by is above 0.
def rounded(number, by):
    return (2 * number + by) // (2 * by)


def is_as_told(point):
    return (
        0 <= point.t <= LAST_TIME
        and abs(point.x) <= FARTHEST_PLACE
        and abs(point.y) <= FARTHEST_PLACE
        and abs(point.brightness) <= GREATEST_BRIGHTNESS
    )


# All numbers and lengths are looked at before any point is, since -2 goes ahead of -3; 0 is no refusal.
def refusal(in_range, most, lists):
    if not in_range or any([count_points(numbers) > most for numbers in lists]):
        return -2
    for numbers in lists:
        if not all([is_as_told(point) for point in read_points(numbers)]):
            return -3
    return 0
